/- choose.split: those that are apart, and the others, by contract. -/
import Derived.Test.YtlgkdonaplejdaaChOrder
import Derived.Test.YtlgkdonaplejdaaRefPush
import Derived.WalkMore
namespace Go.Proofs.Ytlgkdonaplejdaa
open Go.RowKit Go.Shelf Go.Sort Go.Lib

/-- Is one of these nearer to c than c's own distance? -/
def distC (its : List ItT) (e c : TagC) : Int := satN (distN (itAt its e.2).vec (itAt its c.2).vec (max (itAt its e.2).vec.length (itAt its c.2).vec.length))
def nearC (its : List ItT) (ch : List TagC) (c : TagC) : Bool := ch.any fun e => decide (distC its e c < c.1.1.1.1)
def splitGo (its : List ItT) (most : Int) : List TagC → List TagC → List TagC → List TagC × List TagC
  | [], ch, oth => (ch, oth)
  | c :: M, ch, oth => if most ≤ (ch.length : Int) then (ch, oth) else if nearC its ch c = true then splitGo its most M ch (oth ++ [c]) else splitGo its most M (ch ++ [c]) oth
def spotsC (L : List TagC) : List SpotT := L.map fun x => x.1.1
theorem spotsC_len (L : List TagC) : (spotsC L).length = L.length := by simp [spotsC]
theorem cellsC_snoc (L : List TagC) (x : TagC) : cellsC (L ++ [x]) = cellsC L ++ encC x := by simp [cellsC]
theorem cellsS_spot (L : List TagC) (x : TagC) : cellsS (spotsC (L ++ [x])) = cellsS (spotsC L) ++ [.int .u64 x.1.1.1.1, .int .u64 x.1.1.1.2, .int .i64 x.1.1.2] := by
  unfold spotsC
  rw [List.map_append, cellsS_app]
  rfl
theorem near_false {its : List ItT} {ch : List TagC} {c : TagC} (h : ∀ e ∈ ch, c.1.1.1.1 ≤ distC its e c) : nearC its ch c = false := by
  unfold nearC
  rw [List.any_eq_false]
  intro e he
  have := h e he
  simp only [decide_eq_true_eq]
  omega
theorem near_true {its : List ItT} {ch : List TagC} {c e : TagC} (he : e ∈ ch) (h : distC its e c < c.1.1.1.1) : nearC its ch c = true := by
  unfold nearC
  rw [List.any_eq_true]
  exact ⟨e, he, decide_eq_true h⟩

/-- Three rows of the call's own, none of which is another. -/
structure Rows3 (w W : World) (v6 v4 v5 : Value) (ch cs oth : List TagC) : Prop where
  r6 : W.ownsRow w.heap.size 165 4 v6 ch.length (cellsC ch)
  r4 : W.ownsRow w.heap.size 37 3 v4 cs.length (cellsS (spotsC cs))
  r5 : W.ownsRow w.heap.size 37 3 v5 oth.length (cellsS (spotsC oth))
  d64 : ∀ k, v6.ownBlock = some k → v4.ownBlock ≠ some k
  d65 : ∀ k, v6.ownBlock = some k → v5.ownBlock ≠ some k
  d45 : ∀ k, v4.ownBlock = some k → v5.ownBlock ≠ some k
  hb : Below w.heap.size w W
section
variable {w W W' : World} {v6 v4 v5 : Value} {ch cs oth : List TagC}
theorem Rows3.later (h : Rows3 w W v6 v4 v5 ch cs oth) (hb : Below W.heap.size W W') : Rows3 w W' v6 v4 v5 ch cs oth := ⟨own_below h.r6 hb, own_below h.r4 hb, own_below h.r5 hb, h.d64, h.d65, h.d45, h.hb.trans (hb.mono h.hb.size)⟩
theorem own_other {B e size n : Nat} {v : Value} {xs : List Value} {row : Option Nat} (h : W.ownsRow B e size v n xs) (hg : W.grownBy W' row) (hd : ∀ k, v.ownBlock = some k → row ≠ some k) : W'.ownsRow B e size v n xs := own_kept h (fun k e => hg.block k (h.lt k e).2 (fun e2 => hd k e e2.symm))
theorem own_blk {g n c : Nat} : ∀ k, (Value.slice (some ⟨g, 0, none⟩) n c).ownBlock = some k → k = g := fun k e => by
  have e : g = k := by simpa [Value.ownBlock] using e
  exact e.symm
theorem Rows3.put5 (h : Rows3 w W v6 v4 v5 ch cs oth) {c : TagC} {g cap : Nat} (ho : W'.ownsRow w.heap.size 37 3 (.slice (some ⟨g, 0, none⟩) (oth.length + 1) cap) (oth.length + 1) (cellsS (spotsC oth) ++ [.int .u64 c.1.1.1.1, .int .u64 c.1.1.1.2, .int .i64 c.1.1.2])) (hg : W.grownBy W' v5.ownBlock) (hat : v5.ownBlock = some g ∨ g = W.heap.size) : Rows3 w W' v6 v4 (.slice (some ⟨g, 0, none⟩) (oth.length + 1) cap) ch cs (oth ++ [c]) := by
  refine ⟨own_other h.r6 hg h.d65, own_other h.r4 hg h.d45, by rw [cellsS_spot, List.length_append]; exact ho, h.d64, ?_, ?_, ownBase h.r5 h.hb (Nat.le_refl _) h.hb.size hg⟩
  · intro k e e2
    obtain rfl := own_blk k e2
    rcases hat with e3 | e3
    · exact h.d65 k e e3
    · have := (h.r6.lt k e).2
      omega
  · intro k e e2
    obtain rfl := own_blk k e2
    rcases hat with e3 | e3
    · exact h.d45 k e e3
    · have := (h.r4.lt k e).2
      omega
theorem Rows3.put6 (h : Rows3 w W v6 v4 v5 ch cs oth) {c : TagC} {g cap : Nat} (ho : W'.ownsRow w.heap.size 165 4 (.slice (some ⟨g, 0, none⟩) (ch.length + 1) cap) (ch.length + 1) (cellsC ch ++ encC c)) (hg : W.grownBy W' v6.ownBlock) (hat : v6.ownBlock = some g ∨ g = W.heap.size) : Rows3 w W' (.slice (some ⟨g, 0, none⟩) (ch.length + 1) cap) v4 v5 (ch ++ [c]) cs oth := by
  refine ⟨by rw [cellsC_snoc, List.length_append]; exact ho, own_other h.r4 hg (fun k e e2 => h.d64 k e2 e), own_other h.r5 hg (fun k e e2 => h.d65 k e2 e), ?_, ?_, h.d45, ownBase h.r6 h.hb (Nat.le_refl _) h.hb.size hg⟩
  · intro k e e2
    obtain rfl := own_blk k e
    rcases hat with e3 | e3
    · exact h.d64 k e3 e2
    · have := (h.r4.lt k e2).2
      omega
  · intro k e e2
    obtain rfl := own_blk k e
    rcases hat with e3 | e3
    · exact h.d65 k e3 e2
    · have := (h.r5.lt k e2).2
      omega
theorem Rows3.put4 (h : Rows3 w W v6 v4 v5 ch cs oth) {c : TagC} {g cap : Nat} (ho : W'.ownsRow w.heap.size 37 3 (.slice (some ⟨g, 0, none⟩) (cs.length + 1) cap) (cs.length + 1) (cellsS (spotsC cs) ++ [.int .u64 c.1.1.1.1, .int .u64 c.1.1.1.2, .int .i64 c.1.1.2])) (hg : W.grownBy W' v4.ownBlock) (hat : v4.ownBlock = some g ∨ g = W.heap.size) : Rows3 w W' v6 (.slice (some ⟨g, 0, none⟩) (cs.length + 1) cap) v5 ch (cs ++ [c]) oth := by
  refine ⟨own_other h.r6 hg h.d64, by rw [cellsS_spot, List.length_append]; exact ho, own_other h.r5 hg (fun k e e2 => h.d45 k e2 e), ?_, h.d65, ?_, ownBase h.r4 h.hb (Nat.le_refl _) h.hb.size hg⟩
  · intro k e e2
    obtain rfl := own_blk k e2
    rcases hat with e3 | e3
    · exact h.d64 k e e3
    · have := (h.r6.lt k e).2
      omega
  · intro k e e2
    obtain rfl := own_blk k e
    rcases hat with e3 | e3
    · exact h.d45 k e3 e2
    · have := (h.r5.lt k e2).2
      omega
end
/-- What split leaves. -/
def SplitC (R : List TagC × List TagC) (w : World) (e : Ending) (W : World) : Prop :=
  ∃ (A1 : Option Addr) (c1 : Nat) (A2 : Option Addr) (c2 : Nat), e = .returned (.tuple #[.slice A1 R.1.length c1, .slice A2 R.2.length c2]) ∧ W.ownsRow w.heap.size 37 3 (.slice A1 R.1.length c1) R.1.length (cellsS (spotsC R.1)) ∧ RdS W W.heap.size A2 (spotsC R.2) ∧ R.2.length ≤ c2 ∧ c2 ≤ 9223372036854775807 ∧ Below w.heap.size w W

set_option maxRecDepth 100000 in
set_option maxHeartbeats 16000000 in
theorem split_any (g cap : Nat) (M : List TagC) (its : List ItT) (most : Int) (w : World) (hH : HoldsK encC 4 w g 0 M.toArray) (hg : g < w.heap.size) (hV : ∀ x ∈ M, x.1.2 = vecOf (itAt its x.2) ∧ VecB w w.heap.size (itAt its x.2).A (itAt its x.2).vec) (hl : M.length ≤ 100000) :
    Calls Try.prog 73 #[.slice (some ⟨g, 0, none⟩) M.length cap, .int .i64 most] w (SplitC (splitGo its most M [] []) w) := by
  have mixed : Try.prog.follows .mixedOrders = true := by kernel_rfl
  obtain ⟨i0, hi0, hz0, hz1, hz2⟩ := info_parts info_cand
  obtain ⟨i1, hp0, hp1, hp2, hp3⟩ := info_parts info_spot
  obtain ⟨n, hn⟩ : ∃ n, M.length = n := ⟨_, rfl⟩
  rw [hn] at hl
  have HH := Lib.hid hH
  have HV := Lib.hid hV
  have HN := Lib.hid hn
  have HR0 := Lib.hid (show Rows3 w w (.slice none 0 0) (.slice none 0 0) (.slice none 0 0) [] [] [] from ⟨World.ownsRow_nil _ _ _ _, World.ownsRow_nil _ _ _ _, World.ownsRow_nil _ _ _ _, fun k e => by simp [Value.ownBlock] at e, fun k e => by simp [Value.ownBlock] at e, fun k e => by simp [Value.ownBlock] at e, Below.refl _ _⟩)
  clear hH hV
  rw [hn]
  clear hn
  go_enter Try.func73, Try.ntmps73
  go_wp2
  go_step3
  go_wp2
  go_step3
  go_wp2
  go_loopw [13, 6, 4, 5] (fun i v6 v4 v5 wr => ∃ (k : Nat) (ch oth : List TagC), k ≤ n ∧ i = .int .i64 k ∧ Hid (ch.length + oth.length = k ∧ (∀ e ∈ ch, e ∈ M) ∧ splitGo its most (M.drop k) ch oth = splitGo its most M [] []) ∧ Hid (Rows3 w wr v6 v4 v5 ch ch oth)) (fun i _ _ _ _ => n - (intOf i).toNat)
  case atStart => exact ⟨0, [], [], Nat.zero_le _, rfl, ⟨rfl, by simp, rfl⟩, HR0.out⟩
  case round =>
    clear HR0
    obtain ⟨k, ch, oth, hk, rfl, HS, HR⟩ := hrel
    obtain ⟨A6, c6, rfl, h61, h62⟩ := ownSlice HR.out.r6
    by_cases hlt : k < n
    · have hkM : k < M.length := by have := HN.out; omega
      have cx := (CellC.of HH.out (i := k) (by simpa using hkM))
      have hx : M.toArray[k]! = M[k] := by rw [getElem!_pos _ _ (by simpa using hkM)]; rfl
      rw [hx] at cx
      have HD : Hid (M.drop k = M[k] :: M.drop (k + 1)) := List.drop_eq_getElem_cons hkM
      have HVC := Lib.hid (HV.out M[k] (List.getElem_mem hkM))
      have HMC := Lib.hid (List.getElem_mem hkM)
      generalize M[k] = c at *
      clear hx hkM
      obtain ⟨⟨⟨⟨ca, cb⟩, cc⟩, cA, cn, ck⟩, ct⟩ := c
      have hb0 := HR.out.hb
      have x0 := (hb0.cell (p := ⟨g, k * 4, none⟩) hg).trans cx.c0
      have x1 := (hb0.cell (p := ⟨g, k * 4 + 1, none⟩) hg).trans cx.c1
      have x2 := (hb0.cell (p := ⟨g, k * 4 + 2, none⟩) hg).trans cx.c2
      have x3 := (hb0.cell (p := ⟨g, k * 4 + 3, none⟩) hg).trans cx.c3
      simp only at x0 x1 x2 x3
      have hkl : (k : Int) < (n : Int) := by omega
      have hk0 : (0 : Int) ≤ (k : Int) := by omega
      have hkn : ((k : Int)).toNat = k := Int.toNat_natCast k
      have HX := Lib.hid (HR.out.later (below_new3 wr (.cells #[.int .u64 ca, .int .u64 cb, .int .i64 cc, .slice cA cn ck] 165)))
      have d0 : (wr.alloc (.cells #[.int .u64 ca, .int .u64 cb, .int .i64 cc, .slice cA cn ck] 165)).cell? ⟨wr.heap.size, 0, none⟩ = some (.int .u64 ca) := by go_cell
      have d1 : (wr.alloc (.cells #[.int .u64 ca, .int .u64 cb, .int .i64 cc, .slice cA cn ck] 165)).cell? ⟨wr.heap.size, 1, none⟩ = some (.int .u64 cb) := by go_cell
      have d2 : (wr.alloc (.cells #[.int .u64 ca, .int .u64 cb, .int .i64 cc, .slice cA cn ck] 165)).cell? ⟨wr.heap.size, 2, none⟩ = some (.int .i64 cc) := by go_cell
      have d3 : (wr.alloc (.cells #[.int .u64 ca, .int .u64 cb, .int .i64 cc, .slice cA cn ck] 165)).cell? ⟨wr.heap.size, 3, none⟩ = some (.slice cA cn ck) := by go_cell
      have hDs : wr.heap.size < (wr.alloc (.cells #[.int .u64 ca, .int .u64 cb, .int .i64 cc, .slice cA cn ck] 165)).heap.size := by simp
      have HQ6 := Lib.hid (fun q e => (HR.out.r6.lt q e).2)
      have HQ4 := Lib.hid (fun q e => (HR.out.r4.lt q e).2)
      clear cx hb0 HR
      go_upto_region 5 with (fail)
      generalize wr.alloc (.cells #[.int .u64 ca, .int .u64 cb, .int .i64 cc, .slice cA cn ck] 165) = X at *
      generalize wr.heap.size = D at *
      clear x0 x1 x2 x3
      by_cases hmost : most ≤ (ch.length : Int)
      · have hms : splitGo its most M [] [] = (ch, oth) := by
          rw [← HS.out.2.2, HD.out]
          unfold splitGo
          rw [if_pos hmost]
        have HMS := Lib.hid hms
        obtain ⟨A4, c4, rfl, h41, h42⟩ := ownSlice HX.out.r4
        obtain ⟨A5, c5, rfl, h51, h52⟩ := ownSlice HX.out.r5
        clear hms
        go_wp2
        go_ret2
        rw [HMS.out]
        exact ⟨A4, c4, A5, c5, rfl, HX.out.r4, rdS_own (M := spotsC oth) (by rw [spotsC_len]; exact HX.out.r5), h51, h52, HX.out.hb⟩
      · go_wp2
        go_loopw [5, 23] (fun v5 i wr => ∃ j : Nat, v5 = u5 ∧ j ≤ ch.length ∧ i = .int .i64 j ∧ Hid (∀ e ∈ ch.take j, ca ≤ distC its e ((((ca, cb), cc), cA, cn, ck), ct)) ∧ Hid (Below X.heap.size X wr)) (fun _ i _ => ch.length - (intOf i).toNat)
        case atStart => exact ⟨0, rfl, Nat.zero_le _, rfl, (fun e he => by simp at he), Below.refl _ _⟩
        case round =>
          obtain ⟨j, rfl, hj, rfl, HJ, HBJ⟩ := hrel
          by_cases hjlt : j < ch.length
          · have HR := Lib.hid (HX.out.later HBJ.out)
            obtain ⟨g6, rfl, hg6, hg6w⟩ := ownPos HR.out.r6 (by omega)
            have hem := HS.out.2.1 ch[j] (List.getElem_mem hjlt)
            have HVE := Lib.hid (HV.out ch[j] hem)
            have HTJ : Hid (ch.take (j + 1) = ch.take j ++ [ch[j]]) := List.take_succ_eq_append_getElem hjlt
            have HEM := Lib.hid (List.getElem_mem hjlt)
            have gc : ∀ r, r < 4 → wr.cell? ⟨g6, j * 4 + r, none⟩ = some ((encC ch[j])[r]!) := fun r hr => by
              rw [HR.out.r6.cellAt (j * 4 + r) (by omega), cellsC_get ch j r hjlt hr]
            have g0 := gc 0 (by decide)
            have g1 := gc 1 (by decide)
            have g2 := gc 2 (by decide)
            have g3 := gc 3 (by decide)
            rw [Nat.add_zero] at g0
            generalize ch[j] = e at *
            obtain ⟨⟨⟨⟨ea, eb⟩, ec⟩, eA, en, ek⟩, et⟩ := e
            have hve := HVE.out.1
            have hvc := HVC.out.1
            simp only at hve hvc
            have VE := Lib.hid HVE.out.2
            have VC := Lib.hid HVC.out.2
            have HDE : Hid (distC its ((((ea, eb), ec), eA, en, ek), et) ((((ca, cb), cc), cA, cn, ck), ct) = satN (distN (itAt its et).vec (itAt its ct).vec (max (itAt its et).vec.length (itAt its ct).vec.length))) := rfl
            simp only at VE VC
            clear HVE gc hem
            have e0 : wr.cell? ⟨g6, j * 4, none⟩ = some (.int .u64 ea) := g0
            have e1 : wr.cell? ⟨g6, j * 4 + 1, none⟩ = some (.int .u64 eb) := g1
            have e2 : wr.cell? ⟨g6, j * 4 + 2, none⟩ = some (.int .i64 ec) := g2
            have e3 : wr.cell? ⟨g6, j * 4 + 3, none⟩ = some (.slice eA en ek) := g3
            clear g0 g1 g2 g3
            have hjl : (j : Int) < (ch.length : Int) := by omega
            have hj0 : (0 : Int) ≤ (j : Int) := by omega
            have hjn : ((j : Int)).toNat = j := Int.toNat_natCast j
            have HBX := Lib.hid (HBJ.out.alloc HBJ.out.size (.cells #[.int .u64 ea, .int .u64 eb, .int .i64 ec, .slice eA en ek] 165))
            have HRX := Lib.hid (HX.out.later HBX.out)
            have k0 := (HBX.out.cell (p := ⟨D, 0, none⟩) hDs).trans d0
            have k1 := (HBX.out.cell (p := ⟨D, 1, none⟩) hDs).trans d1
            have k2 := (HBX.out.cell (p := ⟨D, 2, none⟩) hDs).trans d2
            have k3 := (HBX.out.cell (p := ⟨D, 3, none⟩) hDs).trans d3
            have m3 : (wr.alloc (.cells #[.int .u64 ea, .int .u64 eb, .int .i64 ec, .slice eA en ek] 165)).cell? ⟨wr.heap.size, 3, none⟩ = some (.slice eA en ek) := by go_cell
            have hD2 : wr.heap.size < (wr.alloc (.cells #[.int .u64 ea, .int .u64 eb, .int .i64 ec, .slice eA en ek] 165)).heap.size := by simp
            have hD1 : D < (wr.alloc (.cells #[.int .u64 ea, .int .u64 eb, .int .i64 ec, .slice eA en ek] 165)).heap.size := by have := HBX.out.size; omega
            clear HR
            go_upto_region 9 with (fail)
            generalize wr.alloc (.cells #[.int .u64 ea, .int .u64 eb, .int .i64 ec, .slice eA en ek] 165) = Y at *
            generalize wr.heap.size = D2 at *
            clear e0 e1 e2 e3
            have HHL := Lib.hid (fun W (hb : Below Y.heap.size Y W) => (show W.cell? ⟨D, 0, none⟩ = some (.int .u64 ca) ∧ W.cell? ⟨D, 3, none⟩ = some (.slice cA cn ck) ∧ W.cell? ⟨D2, 3, none⟩ = some (.slice eA en ek) from ⟨(hb.cell (p := ⟨D, 0, none⟩) hD1).trans k0, (hb.cell (p := ⟨D, 3, none⟩) hD1).trans k3, (hb.cell (p := ⟨D2, 3, none⟩) hD2).trans m3⟩))
            have HK := Lib.hid (fun W (hb : Below Y.heap.size Y W) => (show W.cell? ⟨D, 0, none⟩ = some (.int .u64 ca) ∧ W.cell? ⟨D, 1, none⟩ = some (.int .u64 cb) ∧ W.cell? ⟨D, 2, none⟩ = some (.int .i64 cc) ∧ W.cell? ⟨D, 3, none⟩ = some (.slice cA cn ck) from ⟨(hb.cell (p := ⟨D, 0, none⟩) hD1).trans k0, (hb.cell (p := ⟨D, 1, none⟩) hD1).trans k1, (hb.cell (p := ⟨D, 2, none⟩) hD1).trans k2, (hb.cell (p := ⟨D, 3, none⟩) hD1).trans k3⟩))
            have hY0 := Below.refl Y.heap.size Y
            have hwY : w.heap.size ≤ Y.heap.size := HRX.out.hb.size
            have VEY := (VE.out.below HRX.out.hb).more hwY
            have VCY := (VC.out.below HRX.out.hb).more hwY
            unfold vecOf at hve hvc
            injection hve with v1 v2
            injection v2 with v2 v3
            injection hvc with u1 u2
            injection u2 with u2 u3
            have HDX : Hid (∀ a b, Calls Try.prog 22 #[.slice eA en a, .slice cA cn b] Y.drew fun e' w' => e' = .returned (.int .u64 (distC its ((((ea, eb), ec), eA, en, ek), et) ((((ca, cb), cc), cA, cn, ck), ct))) ∧ Below Y.heap.size Y w') := by
              intro a b
              rw [HDE.out, v1, v2, u1, u2]
              exact (VecB.dist (VEY.below (below_draws Y 1 _)) (VCY.below (below_draws Y 1 _)) (Nat.le_refl _) a b).mono fun _ _ ⟨he, hb⟩ => ⟨he, (below_draws Y 1 _).trans hb⟩
            have HDY : Hid (∀ a b, Calls Try.prog 22 #[.slice eA en a, .slice cA cn b] Y fun e' w' => e' = .returned (.int .u64 (distC its ((((ea, eb), ec), eA, en, ek), et) ((((ca, cb), cc), cA, cn, ck), ct))) ∧ Below Y.heap.size Y w') := by
              intro a b
              rw [HDE.out, v1, v2, u1, u2]
              exact VecB.dist VEY VCY (Nat.le_refl _) a b
            clear v1 v2 v3 u1 u2 u3 VEY VCY k0 k1 k2 k3 m3
            have HNE : Hid (distC its ((((ea, eb), ec), eA, en, ek), et) ((((ca, cb), cc), cA, cn, ck), ct) < ca → nearC its ch ((((ca, cb), cc), cA, cn, ck), ct) = true) := Lib.hid fun h => near_true HEM.out h
            have HNF : Hid (ca ≤ distC its ((((ea, eb), ec), eA, en, ek), et) ((((ca, cb), cc), cA, cn, ck), ct) → ∀ e ∈ ch.take (j + 1), ca ≤ distC its e ((((ca, cb), cc), cA, cn, ck), ct)) := Lib.hid fun h => by
              intro e he
              rw [HTJ.out] at he
              rcases List.mem_append.1 he with e1 | e1
              · exact HJ.out e e1
              · simp at e1
                subst e1
                exact h
            generalize distC its ((((ea, eb), ec), eA, en, ek), et) ((((ca, cb), cc), cA, cn, ck), ct) = dd at *
            by_cases hd : dd < ca
            · go_region_held3 (fun W => W.cell? ⟨D, 0, none⟩ = some (.int .u64 ca) ∧ W.cell? ⟨D, 3, none⟩ = some (.slice cA cn ck) ∧ W.cell? ⟨D2, 3, none⟩ = some (.slice eA en ek))
                (with_reducible first | assumption | exact HHL.out _ (by assumption) | exact HHL.out _ (below_drew (by assumption)) | exact HHL.out _ (below_allocS (by assumption) _) | exact HHL.out _ (below_drew (below_allocS (by assumption) _)))
                (first
                  | (go_at_call 22; (with_reducible first | refine Calls.mono (HDX.out _ _) ?_ | refine Calls.mono (HDY.out _ _) ?_); rintro e' W1 ⟨rfl, hb1⟩))
              have HR1 := Lib.hid (HRX.out.later hb1)
              obtain ⟨q0, q1, q2, q3⟩ := HK.out W1 hb1
              have HRA := Lib.hid (HR1.out.later (below_new3 W1 (.cells #[.int .u64 ca, .int .u64 cb, .int .i64 cc] 37)))
              have HSG : Hid (splitGo its most (M.drop (k + 1)) ch (oth ++ [((((ca, cb), cc), cA, cn, ck), ct)]) = splitGo its most M [] []) := by
                have h := HS.out.2.2
                rw [HD.out, splitGo, if_neg (by omega), if_pos (HNE.out hd)] at h
                exact h
              have hol : oth.length ≤ 100000 := by have := HS.out.1; omega
              have hbw := HR1.out.hb.size
              clear HNF HNE HHL HK HDX HDY HRX HTJ VE VC HDE hY0 hwY
              go_wp2_with (at_builtin; refine wpList_append_lies _ rfl _ _ 22 rfl w.heap.size 37 i1 _ 3 24 Try.underlying22 hp0 hp1 hp2 hp3 rfl (by decide) _ oth.length (cellsS (spotsC oth)) rfl HRA.out.r5 ⟨W1.heap.size, 0, none⟩ 1 1 [.int .u64 ca, .int .u64 cb, .int .i64 cc] rfl rfl (World.news_of_block (cs := #[.int .u64 ca, .int .u64 cb, .int .i64 cc]) (t := 37) (fr := (0, 0)) (heap_alloc_new W1 _)) (by simp [Value.oneCell']) (by decide) (by unfold maxLen; omega) (by omega) (by simp; omega) (W1.heap.size + 1) (by simp) ?_; intro g5 cap5 W3 hown3 hgrow hat hlt3)
              have HR3 := Lib.hid (HRA.out.put5 (c := ((((ca, cb), cc), cA, cn, ck), ct)) hown3 hgrow (hat.imp id (fun e => by rw [e]; simp)))
              clear hown3 hgrow hat hlt3 HRA HR1 q0 q1 q2 q3 hb1 hbw
              go_wp2
              go_roundw
              case rel => exact ⟨k + 1, ch, oth ++ [((((ca, cb), cc), cA, cn, ck), ct)], by omega, by go_num, ⟨by rw [List.length_append]; have := HS.out.1; simp; omega, HS.out.2.1, HSG.out⟩, HR3.out⟩
              case measure => simp [intOf]; omega
            · go_region_held3 (fun W => W.cell? ⟨D, 0, none⟩ = some (.int .u64 ca) ∧ W.cell? ⟨D, 3, none⟩ = some (.slice cA cn ck) ∧ W.cell? ⟨D2, 3, none⟩ = some (.slice eA en ek))
                (with_reducible first | assumption | exact HHL.out _ (by assumption) | exact HHL.out _ (below_drew (by assumption)) | exact HHL.out _ (below_allocS (by assumption) _) | exact HHL.out _ (below_drew (below_allocS (by assumption) _)))
                (first
                  | (go_at_call 22; (with_reducible first | refine Calls.mono (HDX.out _ _) ?_ | refine Calls.mono (HDY.out _ _) ?_); rintro e' W1 ⟨rfl, hb1⟩))
              have HBY := Lib.hid (HBX.out.trans (hb1.mono HBX.out.size))
              have HF2 := Lib.hid (HNF.out (by omega))
              clear HNF HNE HHL HK HDX HDY HRX HTJ VE VC HDE hY0 hwY
              go_wp2
              go_roundw
              case rel => exact ⟨j + 1, rfl, by omega, by go_num, HF2.out, HBY.out⟩
              case measure => simp [intOf]; omega
          · have HR := Lib.hid (HX.out.later HBJ.out)
            have hnf : nearC its ch ((((ca, cb), cc), cA, cn, ck), ct) = false := near_false (fun e he => HJ.out e (by rw [List.take_of_length_le (by omega)]; exact he))
            have HSG : Hid (splitGo its most (M.drop (k + 1)) (ch ++ [((((ca, cb), cc), cA, cn, ck), ct)]) oth = splitGo its most M [] []) := by
              have h := HS.out.2.2
              rw [HD.out, splitGo, if_neg (by omega), if_neg (by rw [hnf]; simp)] at h
              exact h
            have hnj : ¬ (j : Int) < (ch.length : Int) := by omega
            have k0 := (HBJ.out.cell (p := ⟨D, 0, none⟩) hDs).trans d0
            have k1 := (HBJ.out.cell (p := ⟨D, 1, none⟩) hDs).trans d1
            have k2 := (HBJ.out.cell (p := ⟨D, 2, none⟩) hDs).trans d2
            have k3 := (HBJ.out.cell (p := ⟨D, 3, none⟩) hDs).trans d3
            have hDw : D < wr.heap.size := Nat.lt_of_lt_of_le hDs HBJ.out.size
            have hcl : ch.length ≤ 100000 := by have := HS.out.1; omega
            have hbw := HR.out.hb.size
            have HRA := Lib.hid (HR.out.later (below_new3 wr (.cells #[.int .u64 ca, .int .u64 cb, .int .i64 cc, .slice cA cn ck] 165)))
            clear hnf HX HBJ HJ d0 d1 d2 d3
            go_upto_region 13 with (at_builtin; refine wpList_append_lies _ rfl _ _ 108 rfl w.heap.size 165 i0 _ 4 48 Try.underlying108 hi0 hz0 hz1 hz2 rfl (by decide) _ ch.length (cellsC ch) rfl HRA.out.r6 ⟨wr.heap.size, 0, none⟩ 1 1 [.int .u64 ca, .int .u64 cb, .int .i64 cc, .slice cA cn ck] rfl rfl (World.news_of_block (cs := #[.int .u64 ca, .int .u64 cb, .int .i64 cc, .slice cA cn ck]) (t := 165) (fr := (0, 0)) (heap_alloc_new wr _)) (by simp [Value.oneCell']) (by decide) (by unfold maxLen; omega) (by omega) (by simp; omega) (wr.heap.size + 1) (by simp) ?_; intro g7 cap7 W7 hown7 hgrow7 hat7 hlt7; have hf7 := fun o => hgrow7.cell_far (a := ⟨D, o, none⟩) (by simp; omega) (fun e => absurd (HQ6.out D e.symm) (Nat.lt_irrefl _)); have t0 := (hf7 0).trans (((below_new3 wr (.cells #[.int .u64 ca, .int .u64 cb, .int .i64 cc, .slice cA cn ck] 165)).cell (p := ⟨D, 0, none⟩) hDw).trans k0); have t1 := (hf7 1).trans (((below_new3 wr (.cells #[.int .u64 ca, .int .u64 cb, .int .i64 cc, .slice cA cn ck] 165)).cell (p := ⟨D, 1, none⟩) hDw).trans k1); have t2 := (hf7 2).trans (((below_new3 wr (.cells #[.int .u64 ca, .int .u64 cb, .int .i64 cc, .slice cA cn ck] 165)).cell (p := ⟨D, 2, none⟩) hDw).trans k2); clear hf7)
            have HR7 := Lib.hid (HRA.out.put6 (c := ((((ca, cb), cc), cA, cn, ck), ct)) hown7 hgrow7 (hat7.imp id (fun e => by rw [e]; simp)))
            have hD7 : D < W7.heap.size := by have := hgrow7.size; simp at this; omega
            have hw7 : w.heap.size ≤ W7.heap.size := by have := hgrow7.size; simp at this; omega
            have HRB := Lib.hid (HR7.out.later (below_new3 W7 (.cells #[.int .u64 ca, .int .u64 cb, .int .i64 cc] 37)))
            clear hown7 hgrow7 hat7 hlt7 HR7 HRA HR k0 k1 k2 k3
            go_wp2_with (at_builtin; refine wpList_append_lies _ rfl _ _ 22 rfl w.heap.size 37 i1 _ 3 24 Try.underlying22 hp0 hp1 hp2 hp3 rfl (by decide) _ ch.length (cellsS (spotsC ch)) rfl HRB.out.r4 ⟨W7.heap.size, 0, none⟩ 1 1 [.int .u64 ca, .int .u64 cb, .int .i64 cc] rfl rfl (World.news_of_block (cs := #[.int .u64 ca, .int .u64 cb, .int .i64 cc]) (t := 37) (fr := (0, 0)) (heap_alloc_new W7 _)) (by simp [Value.oneCell']) (by decide) (by unfold maxLen; omega) (by omega) (by simp; omega) (W7.heap.size + 1) (by simp) ?_; intro g8 cap8 W8 hown8 hgrow8 hat8 hlt8)
            have HR8 := Lib.hid (HRB.out.put4 (c := ((((ca, cb), cc), cA, cn, ck), ct)) hown8 hgrow8 (hat8.imp id (fun e => by rw [e]; simp)))
            have hls : (ch ++ [((((ca, cb), cc), cA, cn, ck), ct)]).length = ch.length + 1 := by simp
            have HMB : Hid (∀ e ∈ ch ++ [((((ca, cb), cc), cA, cn, ck), ct)], e ∈ M) := Lib.hid fun e he => by
              rcases List.mem_append.1 he with e1 | e1
              · exact HS.out.2.1 e e1
              · simp at e1
                subst e1
                exact HMC.out
            have HLS := Lib.hid hls
            clear hown8 hgrow8 hat8 hlt8 HRB hls t0 t1 t2 hD7 hw7 hDw hbw
            go_wp2
            go_roundw
            case rel => exact ⟨k + 1, ch ++ [((((ca, cb), cc), cA, cn, ck), ct)], oth, by omega, by go_num, ⟨by rw [HLS.out]; have := HS.out.1; omega, HMB.out, HSG.out⟩, HR8.out⟩
            case measure => simp [intOf]; omega
    · have hke : k = n := by omega
      have hms : splitGo its most M [] [] = (ch, oth) := by
        rw [← HS.out.2.2, hke, List.drop_eq_nil_of_le (by have := HN.out; omega)]
        rfl
      have HMS := Lib.hid hms
      have hnk : ¬ (k : Int) < (n : Int) := by omega
      obtain ⟨A4, c4, rfl, h41, h42⟩ := ownSlice HR.out.r4
      obtain ⟨A5, c5, rfl, h51, h52⟩ := ownSlice HR.out.r5
      clear hms hke
      go_wp2
      go_ret2
      rw [HMS.out]
      exact ⟨A4, c4, A5, c5, rfl, HR.out.r4, rdS_own (M := spotsC oth) (by rw [spotsC_len]; exact HR.out.r5), h51, h52, HR.out.hb⟩

end Go.Proofs.Ytlgkdonaplejdaa
