/- choose.inOrder: the candidates in the order in which they are gone through, by contract. -/
import Derived.Test.YtlgkdonaplejdaaStabAll
import Derived.Test.YtlgkdonaplejdaaEdSpot
import Derived.Test.YtlgkdonaplejdaaOwnKept
namespace Go.Proofs.Ytlgkdonaplejdaa
open Go.RowKit Go.Shelf Go.Sort Go.Lib

section
variable {w : World} {g : Nat} {d : Array TagC}
theorem sortStable_any (hH : HoldsK encC 4 w g 0 d) (hg : g < w.heap.size) (D : List TagC) (N mm cap : Nat) (os : Array Obj) (hN : D.length = N) (hd : d.size = N) (hNs : N < 1000000) (hr : Rises D) :
    Calls Try.prog 124 #[.slice (some ⟨g, 0, none⟩) N cap, .func (.func 125) #[] #[]] (SwC w g mm D os) (StableC w g D) := by
  have HC := Lib.hid (stable_any hH hg D N mm cap os hN hd hNs hr)
  clear hH hN hd hr
  go_enter Try.func124, Try.ntmps124
  go_wp2_with fail
  refine Calls.mono HC.out ?_
  rintro e W ⟨M, p1, p2, rfl, m, os', rfl⟩
  go_wp2
  exact bodyPost_end (results_none rfl _ _ _) rfl ⟨M, p1, p2, rfl, m, os', rfl⟩
end

def cellsC (L : List TagC) : List Value := L.flatMap encC
theorem cellsC_len (L : List TagC) : (cellsC L).length = L.length * 4 := by
  unfold cellsC
  induction L with
  | nil => rfl
  | cons z r ih => rw [List.flatMap_cons, List.length_append, ih]; show 4 + _ = _; rw [List.length_cons]; omega
theorem cellsC_mid (A B : List TagC) (z : TagC) : cellsC (A ++ z :: B) = cellsC A ++ (encC z ++ cellsC B) := by simp [cellsC]
theorem cellsC_get : ∀ (zs : List TagC) (k c : Nat) (h : k < zs.length), c < 4 → (cellsC zs)[k * 4 + c]? = some ((encC zs[k])[c]!)
  | z :: r, 0, c, _, hc => by
    have e : cellsC (z :: r) = encC z ++ cellsC r := rfl
    rw [e, List.getElem?_append_left (by show 0 * 4 + c < 4; omega)]
    match c, hc with
    | 0, _ => rfl
    | 1, _ => rfl
    | 2, _ => rfl
    | 3, _ => rfl
  | z :: r, k + 1, c, h, hc => by
    have e : cellsC (z :: r) = encC z ++ cellsC r := rfl
    have hl : (encC z).length = 4 := rfl
    rw [e, List.getElem?_append_right (by rw [hl]; omega), hl, show (k + 1) * 4 + c - 4 = k * 4 + c by omega]
    exact cellsC_get r k c (by simpa using h) hc
theorem set_spot (A B : List TagC) (z : TagC) (k : Nat) (hk : A.length = k) (x : TagC) (hv : x.1.2 = z.1.2) : (((cellsC (A ++ z :: B)).set (k * 4) (.int .u64 x.1.1.1.1)).set (k * 4 + 1) (.int .u64 x.1.1.1.2)).set (k * 4 + 2) (.int .i64 x.1.1.2) = cellsC (A ++ x :: B) := by
  have hl : k * 4 = (cellsC A).length := by rw [cellsC_len, hk]
  rw [cellsC_mid, cellsC_mid, hl, List.set_append_right _ _ (Nat.le_refl _), Nat.sub_self, List.set_append_right _ _ (by omega), List.set_append_right _ _ (by omega), Nat.add_sub_cancel_left, Nat.add_sub_cancel_left]
  unfold encC
  rw [hv]
  rfl
theorem set_vec (A B : List TagC) (z : TagC) (k : Nat) (hk : A.length = k) (x : TagC) (hv : x.1.1 = z.1.1) : (cellsC (A ++ z :: B)).set (k * 4 + 3) (.slice x.1.2.1 x.1.2.2.1 x.1.2.2.2) = cellsC (A ++ x :: B) := by
  have hl : k * 4 = (cellsC A).length := by rw [cellsC_len, hk]
  rw [cellsC_mid, cellsC_mid, hl, List.set_append_right _ _ (by omega), Nat.add_sub_cancel_left]
  unfold encC
  rw [hv]
  rfl
/-- The candidates, and as many that say nothing. -/
def vecOf (z : ItT) : Option Addr × (Nat × Nat) := (z.A, z.vec.length, z.cap)
def candsL (zs : List SpotT) (its : List ItT) : List TagC := (List.range zs.length).map fun k : Nat => ((spAt zs k, vecOf (itAt its k)), k)
def nilsL (n : Nat) : List TagC := (List.range n).map fun k : Nat => ((((0, 0), 0), (none, 0, 0)), k)
theorem candsL_len (zs : List SpotT) (its : List ItT) : (candsL zs its).length = zs.length := by simp [candsL]
theorem nilsL_len (n : Nat) : (nilsL n).length = n := by simp [nilsL]
theorem candsL_get (zs : List SpotT) (its : List ItT) (k : Nat) (h : k < (candsL zs its).length) : (candsL zs its)[k] = ((spAt zs k, vecOf (itAt its k)), k) := by simp [candsL]
theorem nilsL_get (n k : Nat) (h : k < (nilsL n).length) : (nilsL n)[k] = ((((0, 0), 0), (none, 0, 0)), k) := by simp [nilsL]
theorem candsL_rises (zs : List SpotT) (its : List ItT) : Rises (candsL zs its) := by
  unfold Rises candsL
  rw [List.pairwise_map]
  exact List.pairwise_lt_range.imp (fun h => h)
theorem nils_made (n : Nat) : (madeCells #[.int .u64 0, .int .u64 0, .int .i64 0, .slice none 0 0] (n * 4)).toList = cellsC (nilsL n) := by
  apply List.ext_getElem?
  intro j
  by_cases hj : j < n * 4
  · have hk : j / 4 < (nilsL n).length := by rw [nilsL_len]; omega
    have hx := cellsC_get (nilsL n) (j / 4) (j % 4) hk (by omega)
    rw [show j / 4 * 4 + j % 4 = j by omega, nilsL_get] at hx
    rw [hx]
    have hs : (madeCells #[.int .u64 0, .int .u64 0, .int .i64 0, .slice none 0 0] (n * 4)).toList[j]? = some ((#[.int .u64 0, .int .u64 0, .int .i64 0, .slice none 0 0] : Array Value)[j % 4]!) := by
      simp [madeCells, hj]
    rw [hs]
    rcases (show j % 4 = 0 ∨ j % 4 = 1 ∨ j % 4 = 2 ∨ j % 4 = 3 by omega) with e | e | e | e <;> rw [e] <;> rfl
  · rw [List.getElem?_eq_none (by simp [size_madeCells]; omega), List.getElem?_eq_none (by rw [cellsC_len, nilsL_len]; omega)]
theorem holds_ownC {w : World} {base g cap n : Nat} {zs : List TagC} (h : w.ownsRow base 165 4 (.slice (some ⟨g, 0, none⟩) n cap) n (cellsC zs)) (hn : zs.length = n) : HoldsK encC 4 w g 0 zs.toArray := by
  intro j hj
  have hsz : (flatK encC 4 zs.toArray).size = zs.length * 4 := by simp
  rw [hsz] at hj
  have hk : j / 4 < zs.length := by omega
  have hc : j % 4 < 4 := by omega
  have e : j = j / 4 * 4 + j % 4 := by omega
  have hx := cellsC_get zs (j / 4) (j % 4) hk hc
  rw [← e] at hx
  rcases h.2 with ⟨hv, _⟩ | ⟨g', cap', cur, hv, _, hb, _⟩
  · cases hv
  · injection hv with h1 h2 h3
    injection h1 with h1
    injection h1 with h1
    subst h1
    refine ⟨?_, ?_⟩
    · rw [Nat.zero_add, h.cellAt j (by omega), hx, get_flatK _ _ _ _ (by simpa using hj)]
      simp [hk]
    · simp [World.frozen?, hb]
theorem sortC_below {B g m : Nat} {w : World} {L : List TagC} {os : Array Obj} (hB : B ≤ g) (hg : g < w.heap.size) : Below B w (SwC w g m L os) := by
  refine ⟨rfl, rfl, rfl, ?_, fun j hj => ?_⟩
  · show w.heap.size ≤ (w.heap.modify g _ ++ os).size
    rw [Array.size_append, Array.size_modify]
    omega
  · show (w.heap.modify g _ ++ os)[j]? = _
    rw [Array.getElem?_append_left (by rw [Array.size_modify]; omega), Array.getElem?_modify, if_neg (by omega)]
theorem info_cand : (Try.prog.info? 165).map (fun i => (i.zero, i.size, i.bytes)) = some (some (.agg #[.int .u64 0, .int .u64 0, .int .i64 0, .slice none 0 0]), 4, 48) := by kernel_rfl

/-- The candidates in order, in a row of the call's own. -/
def OrderedC (D : List TagC) (w : World) (e : Ending) (W : World) : Prop :=
  ∃ (g : Nat) (M : List TagC), e = .returned (.slice (some ⟨g, 0, none⟩) D.length D.length) ∧ w.heap.size ≤ g ∧ g < W.heap.size ∧ M.Perm D ∧ M.Pairwise ltX ∧ HoldsK encC 4 W g 0 M.toArray ∧ Below w.heap.size w W

set_option maxRecDepth 100000 in
set_option maxHeartbeats 8000000 in
theorem inOrder_any (S : Option Addr) (zs : List SpotT) (cs : Nat) (I : Option Addr) (its : List ItT) (ci : Nat) (w : World) (hS : RdS w w.heap.size S zs) (hI : ItemsAt w w.heap.size I its) (hl : zs.length ≤ 100000) :
    Calls Try.prog 74 #[.slice S zs.length cs, .slice I its.length ci] w (OrderedC (candsL zs its) w) := by
  obtain ⟨i0, hi0, hz0, hz1, hz2⟩ := info_parts info_cand
  obtain ⟨n, hn⟩ : ∃ n, zs.length = n := ⟨_, rfl⟩
  rw [hn] at hl
  have hb8 : i0.bytes * n ≤ 281474976710656 := by rw [hz2]; omega
  have hml : n ≤ maxLen := by unfold maxLen; omega
  have HS := Lib.hid hS
  have HI := Lib.hid hI
  have HN := Lib.hid hn
  clear hS hI
  rw [hn]
  clear hn
  go_enter Try.func74, Try.ntmps74
  go_wp2_with (at_make; refine wpList_make_full _ rfl _ _ _ rfl w.heap.size 165 i0 (.agg #[.int .u64 0, .int .u64 0, .int .i64 0, .slice none 0 0]) 4 Try.underlying108 hi0 hz0 hz1 _ _ _ _ n rfl rfl rfl rfl hb8 hml (Nat.le_refl _) ?_; intro w1 hown hgr)
  have hbel := (Below.refl w.heap.size w).grown hgr (Nat.le_refl _) (fun _ h => by cases h)
  have hown1 : w1.ownsRow w.heap.size 165 4 (.slice (some ⟨w.heap.size, 0, none⟩) n n) n (cellsC (nilsL n)) := by rw [← nils_made]; exact hown
  clear hown hgr hb8 hml hi0 hz0 hz1 hz2
  go_loopw [13] (fun i wr => ∃ k : Nat, k ≤ n ∧ i = .int .i64 k ∧ wr.ownsRow w.heap.size 165 4 (.slice (some ⟨w.heap.size, 0, none⟩) n n) n (cellsC ((candsL zs its).take k ++ (nilsL n).drop k)) ∧ Below w.heap.size w wr) (fun i _ => n - (intOf i).toNat)
  case atStart => exact ⟨0, Nat.zero_le _, rfl, by simpa using hown1, hbel⟩
  case round =>
    clear hown1 hbel
    obtain ⟨k, hk, rfl, hown, hbel⟩ := hrel
    have hA : ((candsL zs its).take k).length = k := by rw [List.length_take, candsL_len]; have := HN.out; omega
    by_cases hlt : k < n
    · have hkz : k < zs.length := by have := HN.out; omega
      obtain ⟨b, off, rfl, hb, h0, h1, h2⟩ := (HS.out.below hbel) k _ (List.getElem?_eq_getElem hkz)
      have hsp : spAt zs k = zs[k] := spAt_get hkz
      have hC : (candsL zs its)[k]'(by rw [candsL_len]; exact hkz) = ((zs[k], vecOf (itAt its k)), k) := by rw [candsL_get, hsp]
      have HT : Hid ((candsL zs its).take (k + 1) = (candsL zs its).take k ++ [((zs[k], vecOf (itAt its k)), k)]) := by rw [Hid, List.take_succ_eq_append_getElem (by rw [candsL_len]; exact hkz), hC]
      have hZ : (nilsL n).drop k = ((((0, 0), 0), (none, 0, 0)), k) :: (nilsL n).drop (k + 1) := by
        rw [List.drop_eq_getElem_cons (by rw [nilsL_len]; exact hlt), nilsL_get]
      rw [hZ] at hown
      have HI2 : Hid (∀ W, Below w.heap.size w W → k < its.length → ∃ bi oi, I = some ⟨bi, oi, none⟩ ∧ W.cell? ⟨bi, oi + k * 3 + 1, none⟩ = some (.slice (itAt its k).A (itAt its k).vec.length (itAt its k).cap)) := Lib.hid fun W hB hki => by
        obtain ⟨⟨bi, oi, e1, _, _, e2, _⟩, _⟩ := (HI.out.below hB) k _ (itAt_lt hki)
        exact ⟨bi, oi, e1, e2⟩
      have HNO : Hid (¬ k < its.length → vecOf (itAt its k) = (none, 0, 0)) := Lib.hid fun h => by rw [itAt_ge (by omega)]; rfl
      generalize zs[k] = z at *
      generalize itAt its k = it at *
      generalize hTk : (candsL zs its).take k = P at *
      obtain ⟨Q, hQ⟩ : ∃ Q, (nilsL n).drop (k + 1) = Q := ⟨_, rfl⟩
      rw [hQ] at hown
      have HQ := Lib.hid hQ
      clear hQ
      obtain ⟨⟨za, zb⟩, zc⟩ := z
      simp only at h0 h1 h2
      have hPQ : (P ++ ((((0, 0), 0), (none, 0, 0)), k) :: Q).length = n := by
        have h := hown.1
        rw [cellsC_len] at h
        omega
      have hX := hown.alloc (.cells #[.int .u64 za, .int .u64 zb, .int .i64 zc] 37)
      have gc : ∀ r, r < 4 → (wr.alloc (.cells #[.int .u64 za, .int .u64 zb, .int .i64 zc] 37)).cell? ⟨w.heap.size, k * 4 + r, none⟩ = some ((encC ((((0, 0), 0), (none, 0, 0)), k))[r]!) := fun r hr => by
        rw [hX.cellAt (k * 4 + r) (by omega), cellsC_get _ k r (by omega) hr]
        congr 2
        rw [List.getElem_append_right (by omega)]
        simp [hA]
      have g0 := gc 0 (by decide)
      have g1 := gc 1 (by decide)
      have g2 := gc 2 (by decide)
      rw [Nat.add_zero] at g0
      have f0 := hX.frozenAt (k * 4)
      have f1 := hX.frozenAt (k * 4 + 1)
      have f2 := hX.frozenAt (k * 4 + 2)
      have d0 : (wr.alloc (.cells #[.int .u64 za, .int .u64 zb, .int .i64 zc] 37)).cell? ⟨wr.heap.size, 0, none⟩ = some (.int .u64 za) := by go_cell
      have d1 : (wr.alloc (.cells #[.int .u64 za, .int .u64 zb, .int .i64 zc] 37)).cell? ⟨wr.heap.size, 1, none⟩ = some (.int .u64 zb) := by go_cell
      have d2 : (wr.alloc (.cells #[.int .u64 za, .int .u64 zb, .int .i64 zc] 37)).cell? ⟨wr.heap.size, 2, none⟩ = some (.int .i64 zc) := by go_cell
      have hst := ((hX.stored (k * 4) (.int .u64 za)).1.stored (k * 4 + 1) (.int .u64 zb)).1.stored (k * 4 + 2) (.int .i64 zc) |>.1
      rw [set_spot P Q ((((0, 0), 0), (none, 0, 0)), k) k hA ((((za, zb), zc), (none, 0, 0)), k) rfl] at hst
      have hb5 := ((((hbel.alloc hbel.size (.cells #[.int .u64 za, .int .u64 zb, .int .i64 zc] 37)).setCell (Nat.le_refl _) (p := ⟨w.heap.size, k * 4, none⟩) (.int .u64 za)).setCell (Nat.le_refl _) (p := ⟨w.heap.size, k * 4 + 1, none⟩) (.int .u64 zb)).setCell (Nat.le_refl _) (p := ⟨w.heap.size, k * 4 + 2, none⟩) (.int .i64 zc))
      have HO5 := Lib.hid hst
      have HB5 := Lib.hid hb5
      have HX := Lib.hid hX
      have hkl : (k : Int) < (n : Int) := by omega
      have hk0 : (0 : Int) ≤ (k : Int) := by omega
      have hkn : ((k : Int)).toNat = k := Int.toNat_natCast k
      have HPA := Lib.hid (And.intro hA hPQ)
      clear hX hst hb5 gc hown hbel hC hsp hZ hTk hPQ hA
      go_upto_region 6 with (fail)
      generalize (((wr.alloc (.cells #[.int .u64 za, .int .u64 zb, .int .i64 zc] 37)).setCell ⟨w.heap.size, k * 4, none⟩ (.int .u64 za)).setCell ⟨w.heap.size, k * 4 + 1, none⟩ (.int .u64 zb)).setCell ⟨w.heap.size, k * 4 + 2, none⟩ (.int .i64 zc) = W5 at *
      clear g0 g1 g2 f0 f1 f2 d0 d1 d2 h0 h1 h2 HX
      have hPQ5 : (P ++ ((((za, zb), zc), (none, 0, 0)), k) :: Q).length = n := by have := HPA.out.2; simp at this ⊢; exact this
      by_cases hki : k < its.length
      · obtain ⟨bi, oi, rfl, e2⟩ := HI2.out W5 HB5.out hki
        have hkiz : (k : Int) < (its.length : Int) := by omega
        have g3 : W5.cell? ⟨w.heap.size, k * 4 + 3, none⟩ = some (.slice none 0 0) := by
          rw [HO5.out.cellAt (k * 4 + 3) (by omega), cellsC_get _ k 3 (by omega) (by decide)]
          congr 1
          rw [List.getElem_append_right (by have := HPA.out.1; omega)]
          simp [HPA.out.1, encC]
        have f3 := HO5.out.frozenAt (k * 4 + 3)
        have hst := (HO5.out.stored (k * 4 + 3) (.slice it.A it.vec.length it.cap)).1
        rw [show (Value.slice it.A it.vec.length it.cap) = .slice (((((za, zb), zc), vecOf it), k) : TagC).1.2.1 (((((za, zb), zc), vecOf it), k) : TagC).1.2.2.1 (((((za, zb), zc), vecOf it), k) : TagC).1.2.2.2 from rfl, set_vec P Q ((((za, zb), zc), (none, 0, 0)), k) k HPA.out.1 ((((za, zb), zc), vecOf it), k) rfl] at hst
        have HO6 := Lib.hid hst
        have HB6 := Lib.hid (HB5.out.setCell (Nat.le_refl _) (p := ⟨w.heap.size, k * 4 + 3, none⟩) (.slice it.A it.vec.length it.cap))
        clear hst
        go_wp2
        go_roundw
        case rel => exact ⟨k + 1, by omega, by go_num, by rw [HT.out, HQ.out, List.append_assoc]; exact HO6.out, HB6.out⟩
        case measure => simp [intOf]; omega
      · have hkiz : ¬ (k : Int) < (its.length : Int) := by omega
        have hv := HNO.out hki
        rw [hv] at HT
        clear hv
        go_wp2
        go_roundw
        case rel => exact ⟨k + 1, by omega, by go_num, by rw [HT.out, HQ.out, List.append_assoc]; exact HO5.out, HB5.out⟩
        case measure => simp [intOf]; omega
    · obtain rfl : k = n := by omega
      have hfull : (candsL zs its).take k ++ (nilsL k).drop k = candsL zs its := by
        rw [List.take_of_length_le (by rw [candsL_len]; have := HN.out; omega), List.drop_eq_nil_of_le (by rw [nilsL_len]; exact Nat.le_refl _), List.append_nil]
      rw [hfull] at hown
      have hgw : w.heap.size < wr.heap.size := by
        rcases hown.2 with ⟨hv, _⟩ | ⟨g', cap', cur, hv, _, hh, _⟩
        · cases hv
        · injection hv with h1
          injection h1 with h1
          injection h1 with h1
          rw [← h1] at hh
          exact (Array.getElem?_eq_some_iff.1 hh).1
      have hlen : (candsL zs its).length = k := by rw [candsL_len]; exact HN.out
      have hH := holds_ownC hown hlen
      have hstart : SwC wr w.heap.size 0 (candsL zs its) #[] = wr := sortWorldK_start encC 4 wr w.heap.size 0 (candsL zs its).toArray hH
      have HC := Lib.hid (sortStable_any hH hgw (candsL zs its) k 0 k #[] hlen (by simpa using hlen) (by omega) (candsL_rises zs its))
      rw [hstart] at HC
      have HHC := Lib.hid hH
      have HL := Lib.hid hlen
      have HG := Lib.hid hgw
      have HB := Lib.hid hbel
      clear hown hbel hfull hA hH hstart hlen hgw
      go_wp2_with fail
      refine Calls.mono HC.out ?_
      rintro e W ⟨M, p1, p2, rfl, m, os, rfl⟩
      have hMl : M.length = k := by rw [p1.length_eq]; exact HL.out
      go_wp2
      go_ret
      refine ⟨w.heap.size, M, by rw [HL.out]; rfl, Nat.le_refl _, swC_size wr _ m M os HG.out, p1, p2, ?_, HB.out.trans (sortC_below (Nat.le_refl _) HG.out)⟩
      exact holdsC HHC.out HG.out (by simpa using HL.out) hMl

end Go.Proofs.Ytlgkdonaplejdaa
