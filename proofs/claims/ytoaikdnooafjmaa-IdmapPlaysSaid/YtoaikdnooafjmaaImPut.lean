/- idmap's Put, Drop, by contract. -/
import Derived.Test.YtoaikdnooafjmaaImDo
namespace Go.Proofs.Ytoaikdnooafjmaa
open Go.RowKit

/-- What a change leaves of a map. -/
def ImOut (w : World) (B bs : Nat) (bm : Nat → Nat) (m n : Nat) (x : IX) (r : Value) (e : Ending) (w' : World) : Prop := e = .returned r ∧ Im w' B bs bm m x ∧ Chg (ImM B bs bm n) w w'
section
variable {w : World} {B bs m : Nat} {bm : Nat → Nat} {x : IX}
theorem Im.row (h : Im w B bs bm m x) (hf : IFit m x) : B < w.heap.size ∧ bs < w.heap.size := ⟨h.lt hf.n1 (.inl rfl), h.lt hf.n1 (.inr (.inl rfl))⟩
set_option maxRecDepth 100000 in
set_option maxHeartbeats 4000000 in
theorem imPut_any (h : Im w B bs bm m x) (hf : IFit m x) (hm : m < 100000) {k : Int} (hk : IsU k) (r : RefT) : Calls Try.prog 78 #[.pointer (some ⟨B, 0, none⟩), .int .u64 k, refV r] w (ImOut w B bs bm (m + 1) x.n (imPut x k r) (.bool (!imHas x k))) := by
  have hs := shI_lt hf.n1 k
  have hv := hf.ver
  have hbA := below_new w (.cells #[.int .i64 r.1, .int .i64 r.2] 99)
  have hA := h.later hf.n1 hbA
  have HG := Lib.hid (imGet_any hA hf hk)
  unfold refV at *
  obtain ⟨s, g⟩ := r
  cases hh : imHas x k with
  | true =>
    rw [hh] at HG
    have HO : Hid (∀ W, Below (w.alloc (.cells #[.int .i64 s, .int .i64 g] 99)).heap.size (w.alloc (.cells #[.int .i64 s, .int .i64 g] 99)) W → ImOut w B bs bm (m + 1) x.n (imPut x k (s, g)) (.bool false) (.returned (.bool false)) W) := Lib.hid fun W hb => by
      have hb2 : Below w.heap.size w W := Below.next hbA hb
      refine ⟨rfl, ?_, Chg.of_below hb2⟩
      unfold imPut
      rw [hh, if_pos rfl]
      exact (h.later hf.n1 hb2).more (Nat.le_succ m)
    generalize imGet x k = gr at *
    obtain ⟨gs, gg⟩ := gr
    clear h hf hk hh hA hbA hs hv
    go_enter Try.func78, Try.ntmps78
    go_wp2_with fail
    refine HG.out.mono ?_
    rintro e w1 ⟨rfl, hb1⟩
    have HF := Lib.hid (HO.out _ (Below.next hb1 (below_new w1 (.cells #[.int .i64 gs, .int .i64 gg] 99))))
    clear hb1 HO HG
    go_wp2
    go_ret
    exact HF.out
  | false =>
    rw [hh] at HG
    have HTW := Lib.hid (Two.new w (.int .i64 s) (.int .i64 g) 99)
    have HX : Hid (∀ W, Below w.heap.size w W → Im W B bs bm m x) := Lib.hid fun W hb => h.later hf.n1 hb
    have HP : Hid (∀ W, Below w.heap.size w W → ∃ w2, (Instr.mapUpdate 211 (.map (some (bm (shI x.n k)))) (.int .u64 k) (.agg #[.int .i64 s, .int .i64 g])).run Try.prog W = .ok () w2 ∧
        (w2.cell? ⟨B, 1, none⟩ = some (.int .i64 (x.v : Int)) ∧ w2.frozen? ⟨B, 1, none⟩ = false ∧ ImOut w B bs bm (m + 1) x.n (imPut x k (s, g)) (.bool true) (.returned (.bool true)) (w2.setCell ⟨B, 1, none⟩ (.int .i64 ((x.v : Int) + 1))))) := Lib.hid fun W hb => by
      have hW := HX.out W hb
      have hfn := imHas_false.1 hh
      obtain ⟨w2, hrun, hmp, ht⟩ := (hW.mp _ hs).put (by unfold maxLen; omega) hk (s, g) (by show (if shI x.n k = shI x.n k then _ else _) = none; rw [if_pos rfl]; exact hfn)
      have hBm : B ≠ bm (shI x.n k) := (hW.mp _ hs).not_cell hW.c0
      have q := ht.grown.block B (hW.row hf).1 (fun e => hBm (by injection e))
      have hti := hW.turn (k := k) (L := insI x.L k (s, g)) hf.n1 ht hmp (Nat.le_succ m) (fun j hj => ?_) ?_ (fun j hj => ?_) (fun i hi => ?_) (x.v + 1)
      · rw [Int.natCast_add] at hti
        refine ⟨w2, hrun, (World.cell?_of_block (w := W) q).trans hW.c1.1, (World.frozen?_of_block (w := W) q).trans hW.c1.2, rfl, ?_, ?_⟩
        · unfold imPut
          rw [hh]
          exact hti.1
        · exact (Chg.of_below hb).trans hti.2 (fun b e => .inl e)
      · show (if j = k then some (s, g) else if shI x.n j = shI x.n k then findI x.L j else none) = _
        rw [findI_ins (s, g) hfn j]
        by_cases e : j = k
        · rw [if_pos e, if_pos e, e, if_pos rfl]
        · rw [if_neg e, if_neg e]
      · rw [cntI_ins, if_pos rfl]
      · rw [findI_ins (s, g) hfn j, if_neg hj]
      · rw [cntI_ins, if_neg (fun e => hi e.symm)]
        rfl
    have HSH : Hid (∀ W, Below w.heap.size w W → Calls Try.prog 85 #[.pointer (some ⟨B, 0, none⟩), .int .u64 k] W fun e w' => e = .returned (.int .i64 (shI x.n k : Nat)) ∧ Drawn W w') := Lib.hid fun W hb => imShard_any (HX.out W hb) hf hk
    have HCS : Hid (∀ W, Below w.heap.size w W → W.cell? ⟨B, 0, none⟩ = some (.slice (some ⟨bs, 0, none⟩) x.n x.n) ∧ W.cell? ⟨bs, shI x.n k, none⟩ = some (.map (some (bm (shI x.n k))))) := Lib.hid fun W hb => ⟨(HX.out W hb).c0, (HX.out W hb).sh _ hs⟩
    have HBA := Lib.hid hbA
    generalize imGet x k = gr at *
    obtain ⟨gs, gg⟩ := gr
    have hmix : Try.prog.follows .mixedOrders = true := by kernel_rfl
    clear h hf hk hh hA hbA HX
    generalize hfin : imPut x k (s, g) = y at *
    generalize shI x.n k = sk at *
    generalize bm sk = bk at *
    generalize hvv : x.v = xv at *
    have hv1 : (xv : Int) < 100000 := by omega
    clear hfin hvv
    generalize x.n = n at *
    have hs0 : (0 : Int) ≤ (sk : Int) := by omega
    have hs1 : (sk : Int) < (n : Int) := by omega
    go_enter Try.func78, Try.ntmps78
    go_wp2_with fail
    refine HG.out.mono ?_
    rintro e w1 ⟨rfl, hb1⟩
    have HB1 := Lib.hid (Below.next HBA.out (Below.next hb1 (below_new w1 (.cells #[.int .i64 gs, .int .i64 gg] 99))))
    have HTW1 := Lib.hid (HTW.out.below (Below.next hb1 (below_new w1 (.cells #[.int .i64 gs, .int .i64 gg] 99))))
    clear hb1 HG HTW HBA
    go_upto_region 6 with (fail)
    generalize w1.alloc (.cells #[.int .i64 gs, .int .i64 gg] 99) = W0 at *
    have HALL : Hid (∀ W, Drawn W0 W → W.cell? ⟨B, 0, none⟩ = some (.slice (some ⟨bs, 0, none⟩) n n) ∧ W.cell? ⟨bs, sk, none⟩ = some (.map (some bk)) ∧ Two W w.heap.size (.int .i64 s) (.int .i64 g) ∧ ∃ w2, (Instr.mapUpdate 211 (.map (some bk)) (.int .u64 k) (.agg #[.int .i64 s, .int .i64 g])).run Try.prog W = .ok () w2 ∧
        (w2.cell? ⟨B, 1, none⟩ = some (.int .i64 (xv : Int)) ∧ w2.frozen? ⟨B, 1, none⟩ = false ∧ ImOut w B bs bm (m + 1) n y (.bool true) (.returned (.bool true)) (w2.setCell ⟨B, 1, none⟩ (.int .i64 ((xv : Int) + 1))))) := Lib.hid fun W hd =>
      have hb := HB1.out.trans (hd.below _)
      ⟨(HCS.out W hb).1, (HCS.out W hb).2, HTW1.out.drawn hd, HP.out W hb⟩
    have HSH : Hid (∀ W, Drawn W0 W → Calls Try.prog 85 #[.pointer (some ⟨B, 0, none⟩), .int .u64 k] W fun e w' => e = .returned (.int .i64 (sk : Nat)) ∧ Drawn W w') := Lib.hid fun W hd => HSH.out W (HB1.out.trans (hd.below _))
    obtain ⟨P0, hP0⟩ : ∃ P0, w.heap.size = P0 := ⟨_, rfl⟩
    rw [hP0] at HALL
    rw [hP0]
    clear HCS HP HB1 HTW1
    refine region_once 36 hmix rfl (VO [some (.pointer (some ⟨B, 0, none⟩)), some (.pointer (some ⟨B, 0, none⟩)), some (.pointer (some ⟨B, 0, none⟩)), some (.slice (some ⟨bs, 0, none⟩) n n), some (.pointer (some ⟨B, 0, none⟩)), some (.int .u64 k), some (.int .i64 (sk : Int)), some (.pointer (some ⟨bs, sk, none⟩)), some (.map (some bk)), some (.int .u64 k), some (.agg #[.int .i64 s, .int .i64 g]), none]) (JDraw W0 (fun w2 => w2.cell? ⟨B, 1, none⟩ = some (.int .i64 (xv : Int)) ∧ w2.frozen? ⟨B, 1, none⟩ = false ∧ ImOut w B bs bm (m + 1) n y (.bool true) (.returned (.bool true)) (w2.setCell ⟨B, 1, none⟩ (.int .i64 ((xv : Int) + 1)))) 11) (by kernel_rfl) (JDraw.start _ _ (Drawn.refl.step 1)) ?steps [18, 19, 20, 21, 22, 23, 24, 25, 26, 27, 28] rfl ?fin
    case steps =>
      refine ⟨?_, ?_, ?_, ?_, ?_, ?_, ?_, ?_, ?_, ?_, ?_, ?_, trivial⟩
      · intro L a W hJ ho hL hc hw
        have e0 : a.eval (.tmp 0) = .pointer (some ⟨B, 0, none⟩) := ho 0 rfl
        clear hc hw hL ho
        exact once_run (v := .pointer (some ⟨B, 0, none⟩)) (wantO_none rfl) (by simp only [execOp, e0]; rfl) (fun u hu => by simpa using hu) (hJ.read (by decide))
      · intro L a W hJ ho hL hc hw
        have e18 : a.eval (.tmp 18) = .pointer (some ⟨B, 0, none⟩) := (hw 0 rfl).2 18 rfl _ rfl
        clear hc hw hL ho
        exact once_run (v := .pointer (some ⟨B, 0, none⟩)) (wantO_none rfl) (by simp only [execOp, e18]; go_simp) (fun u hu => by simpa using hu) (hJ.read (by decide))
      · intro L a W hJ ho hL hc hw
        have e19 : a.eval (.tmp 19) = .pointer (some ⟨B, 0, none⟩) := (hw 1 rfl).2 19 rfl _ rfl
        clear hc hw hL ho
        exact once_run (v := .pointer (some ⟨B, 0, none⟩)) (wantO_none rfl) (by simp only [execOp, e19]; go_simp) (fun u hu => by simpa using hu) (hJ.read (by decide))
      · intro L a W hJ ho hL hc hw
        have e20 : a.eval (.tmp 20) = .pointer (some ⟨B, 0, none⟩) := (hw 2 rfl).2 20 rfl _ rfl
        have hlm : L 11 = false := ls_false (hc 11 3 rfl) hL
        obtain ⟨k0, k1, _⟩ := HALL.out W (hJ.1 hlm)
        clear hc hw hL ho
        exact once_run (v := .slice (some ⟨bs, 0, none⟩) n n) (wantO_none rfl) (by simp only [execOp, e20]; go_simp) (fun u hu => by simpa using hu) (hJ.read (by decide))
      · intro L a W hJ ho hL hc hw
        have e0 : a.eval (.tmp 0) = .pointer (some ⟨B, 0, none⟩) := ho 0 rfl
        clear hc hw hL ho
        exact once_run (v := .pointer (some ⟨B, 0, none⟩)) (wantO_none rfl) (by simp only [execOp, e0]; rfl) (fun u hu => by simpa using hu) (hJ.read (by decide))
      · intro L a W hJ ho hL hc hw
        have e1 : a.eval (.tmp 1) = .int .u64 k := ho 1 rfl
        clear hc hw hL ho
        exact once_run (v := .int .u64 k) (wantO_none rfl) (by simp only [execOp, e1]; rfl) (fun u hu => by simpa using hu) (hJ.read (by decide))
      · intro L a W hJ ho hL hc hw
        have e22 : a.eval (.tmp 22) = .pointer (some ⟨B, 0, none⟩) := (hw 4 rfl).2 22 rfl _ rfl
        have e23 : a.eval (.tmp 23) = .int .u64 k := (hw 5 rfl).2 23 rfl _ rfl
        have hlm : L 11 = false := ls_false (hc 11 6 rfl) hL
        exact once_call (wantO_none rfl) rfl (args := #[.pointer (some ⟨B, 0, none⟩), .int .u64 k]) (by simp [e22, e23]) (by go_simp) (HSH.out W (hJ.1 hlm)) (fun e W' h => ⟨_, h.1, (fun u hu => by simpa using hu), hJ.step (by decide) hlm h.2⟩)
      · intro L a W hJ ho hL hc hw
        have e21 : a.eval (.tmp 21) = .slice (some ⟨bs, 0, none⟩) n n := (hw 3 rfl).2 21 rfl _ rfl
        have e24 : a.eval (.tmp 24) = .int .i64 (sk : Int) := (hw 6 rfl).2 24 rfl _ rfl
        clear hc hw hL ho
        exact once_run (v := .pointer (some ⟨bs, sk, none⟩)) (wantO_none rfl) (by simp only [execOp, e21, e24]; simp only [Sem.run_bind, idxM bs sk n W hs0 hs1, Result.andThen_ok, Sem.run_pure]) (fun u hu => by simpa using hu) (hJ.read (by decide))
      · intro L a W hJ ho hL hc hw
        have e25 : a.eval (.tmp 25) = .pointer (some ⟨bs, sk, none⟩) := (hw 7 rfl).2 25 rfl _ rfl
        have hlm : L 11 = false := ls_false (hc 11 8 rfl) hL
        obtain ⟨k0, k1, _⟩ := HALL.out W (hJ.1 hlm)
        clear hc hw hL ho
        exact once_run (v := .map (some bk)) (wantO_none rfl) (by simp only [execOp, e25]; go_simp) (fun u hu => by simpa using hu) (hJ.read (by decide))
      · intro L a W hJ ho hL hc hw
        have e1 : a.eval (.tmp 1) = .int .u64 k := ho 1 rfl
        clear hc hw hL ho
        exact once_run (v := .int .u64 k) (wantO_none rfl) (by simp only [execOp, e1]; rfl) (fun u hu => by simpa using hu) (hJ.read (by decide))
      · intro L a W hJ ho hL hc hw
        have e5 : a.eval (.tmp 5) = .pointer (some ⟨P0, 0, none⟩) := ho 5 rfl
        have hlm : L 11 = false := ls_false (hc 11 10 rfl) hL
        obtain ⟨_, _, ⟨⟨k0, k1⟩, _⟩, _⟩ := HALL.out W (hJ.1 hlm)
        clear hc hw hL ho
        exact once_run (v := .agg #[.int .i64 s, .int .i64 g]) (wantO_none rfl) (by simp only [execOp, e5]; go_simp) (fun u hu => by simpa using hu) (hJ.read (by decide))
      · intro L a W hJ ho hL hc hw
        have e26 : a.eval (.tmp 26) = .map (some bk) := (hw 8 rfl).2 26 rfl _ rfl
        have e27 : a.eval (.tmp 27) = .int .u64 k := (hw 9 rfl).2 27 rfl _ rfl
        have e28 : a.eval (.tmp 28) = .agg #[.int .i64 s, .int .i64 g] := (hw 10 rfl).2 28 rfl _ rfl
        obtain ⟨_, _, _, w2, hrun, hF⟩ := HALL.out W (hJ.1 hL)
        clear ho hc hw
        exact once_store (wantO_none rfl) rfl (W' := w2) (by simp only [execOp, e26, e27, e28]; simp [hrun, Result.andThen]) (fun u hu => by simp at hu) (JDraw.turn hF)
    case fin =>
      intro L gg W hJ hall hv
      have g18 : gg 18 = .pointer (some ⟨B, 0, none⟩) := hv 0 18 rfl _ rfl
      have g19 : gg 19 = .pointer (some ⟨B, 0, none⟩) := hv 1 19 rfl _ rfl
      have g20 : gg 20 = .pointer (some ⟨B, 0, none⟩) := hv 2 20 rfl _ rfl
      have g21 : gg 21 = .slice (some ⟨bs, 0, none⟩) n n := hv 3 21 rfl _ rfl
      have g22 : gg 22 = .pointer (some ⟨B, 0, none⟩) := hv 4 22 rfl _ rfl
      have g23 : gg 23 = .int .u64 k := hv 5 23 rfl _ rfl
      have g24 : gg 24 = .int .i64 (sk : Int) := hv 6 24 rfl _ rfl
      have g25 : gg 25 = .pointer (some ⟨bs, sk, none⟩) := hv 7 25 rfl _ rfl
      have g26 : gg 26 = .map (some bk) := hv 8 26 rfl _ rfl
      have g27 : gg 27 = .int .u64 k := hv 9 27 rfl _ rfl
      have g28 : gg 28 = .agg #[.int .i64 s, .int .i64 g] := hv 10 28 rfl _ rfl
      simp only [List.foldl_cons, List.foldl_nil, List.setIfInBounds_toArray, List.set_cons_succ, List.set_cons_zero, g18, g19, g20, g21, g22, g23, g24, g25, g26, g27, g28]
      clear g18 g19 g20 g21 g22 g23 g24 g25 g26 g27 g28 hv
      obtain ⟨q0, q1, q2⟩ := hJ.2 (hall 11 (by decide))
      have HF := Lib.hid q2
      clear hJ hall HALL HSH q2
      go_wp2
      go_ret
      exact HF.out
theorem imVer_any (h : Im w B bs bm m x) : Calls Try.prog 84 #[.pointer (some ⟨B, 0, none⟩)] w fun e w' => e = .returned (.int .i64 (x.v : Nat)) ∧ w = w' := by
  have c1 := h.c1.1
  clear h
  go_enter Try.func84, Try.ntmps84
  go_wp2
  go_ret
  exact ⟨rfl, rfl⟩
theorem imSize_in (h : Im w B bs bm m x) {i : Nat} (hi : i < x.n) : Calls Try.prog 87 #[.pointer (some ⟨B, 0, none⟩), .int .i64 (i : Int)] w fun e w' => e = .returned (.int .i64 (cntI x.n x.L i : Nat)) ∧ w = w' := by
  have c0 := h.c0
  have cs := h.sh i hi
  have hl := (h.mp i hi).len
  generalize cntI x.n x.L i = cn at *
  have h0 : ¬ (i : Int) < 0 := by omega
  have h1 : (i : Int) < (x.n : Int) := by omega
  clear h
  go_enter Try.func87, Try.ntmps87
  go_wp2
  go_ret
  exact ⟨rfl, rfl⟩
theorem imSize_out (h : Im w B bs bm m x) {i : Int} (hi : i < 0 ∨ (x.n : Int) ≤ i) : Calls Try.prog 87 #[.pointer (some ⟨B, 0, none⟩), .int .i64 i] w fun e w' => e = .returned (.int .i64 0) ∧ w = w' := by
  have c0 := h.c0
  clear h
  rcases hi with hi | hi
  · go_enter Try.func87, Try.ntmps87
    go_wp2
    go_ret
    exact ⟨rfl, rfl⟩
  · have h0 : ¬ i < 0 := by omega
    go_enter Try.func87, Try.ntmps87
    go_wp2
    go_ret
    exact ⟨rfl, rfl⟩
set_option maxRecDepth 100000 in
set_option maxHeartbeats 2000000 in
theorem imLen_any (h : Im w B bs bm m x) (hf : IFit m x) (hm : m < 100000) : Calls Try.prog 83 #[.pointer (some ⟨B, 0, none⟩)] w fun e w' => e = .returned (.int .i64 (x.L.length : Nat)) ∧ w = w' := by
  have c0 := h.c0
  have HS := Lib.hid (sumI_all hf.n1 x.L)
  have HL := Lib.hid (fun j => Nat.le_trans (sumI_le (n := x.n) x.L j) hf.len)
  have HC := Lib.hid (fun j (hj : j < x.n) => And.intro (h.sh j hj) (h.mp j hj).len)
  have hn := hf.n64
  clear h hf
  go_enter Try.func83, Try.ntmps83
  go_wp2
  go_loopw [3, 13] (fun a i wr => ∃ j : Nat, j ≤ x.n ∧ i = .int .i64 (j : Int) ∧ a = .int .i64 (sumI x.n x.L j : Int) ∧ wr = w) (fun _ i _ => x.n - (intOf i).toNat)
  case atStart => exact ⟨0, Nat.zero_le _, rfl, rfl, rfl⟩
  case round =>
    obtain ⟨j, hj, rfl, rfl, rfl⟩ := hrel
    by_cases hjn : j < x.n
    · obtain ⟨d0, d1⟩ := HC.out j hjn
      have hjn1 : (j : Int) < (x.n : Int) := by omega
      have hj0 : (0 : Int) ≤ (j : Int) := by omega
      have b0 := HL.out j
      have b1 := HL.out (j + 1)
      have he : sumI x.n x.L (j + 1) = sumI x.n x.L j + cntI x.n x.L j := rfl
      obtain ⟨a1, ha1⟩ : ∃ a, sumI x.n x.L (j + 1) = a := ⟨_, rfl⟩
      obtain ⟨a0, ha0⟩ : ∃ a, sumI x.n x.L j = a := ⟨_, rfl⟩
      obtain ⟨a2, ha2⟩ : ∃ a, cntI x.n x.L j = a := ⟨_, rfl⟩
      rw [ha2] at he d1
      rw [ha0] at he b0
      rw [ha1] at he b1
      rw [ha0]
      have HA1 := Lib.hid ha1
      have HE := Lib.hid he
      have e0 : (a0 : Int) ≤ 100000 := by omega
      have e2 : (a2 : Int) ≤ 100000 := by omega
      have e3 : (0 : Int) ≤ (a0 : Int) := by omega
      have e4 : (0 : Int) ≤ (a2 : Int) := by omega
      clear ha0 ha1 ha2 he b0 b1 HC HL
      go_wp2
      go_roundw
      case rel => exact ⟨j + 1, by omega, by go_num, by rw [HA1.out, HE.out, Int.natCast_add], by first | exact rfl | trivial⟩
      case measure => simp [intOf]; omega
    · obtain rfl : j = x.n := by omega
      rw [HS.out]
      clear HC HL
      go_wp2
      go_ret
      exact ⟨rfl, rfl⟩
set_option maxRecDepth 100000 in
set_option maxHeartbeats 4000000 in
theorem imDrop_any (h : Im w B bs bm m x) (hf : IFit m x) (hm : m < 100000) {k : Int} (hk : IsU k) : Calls Try.prog 80 #[.pointer (some ⟨B, 0, none⟩), .int .u64 k] w (ImOut w B bs bm (m + 1) x.n (imDrop x k) (.tuple #[refV (imGet x k), .bool (imHas x k)])) := by
  have hs := shI_lt hf.n1 k
  have hv := hf.ver
  have hbA := below_new w (.cells #[.int .i64 0, .int .i64 0] 99)
  have hA := h.later hf.n1 hbA
  have HG := Lib.hid (imGet_any hA hf hk)
  have HTW := Lib.hid (Two.new w (.int .i64 0) (.int .i64 0) 99)
  cases hh : imHas x k with
  | false =>
    have hg0 : imGet x k = (0, 0) := by unfold imGet; rw [imHas_false.1 hh]; rfl
    rw [hh, hg0] at HG
    rw [hg0]
    unfold refV at *
    have HO : Hid (∀ W, Below w.heap.size w W → ImOut w B bs bm (m + 1) x.n (imDrop x k) (.tuple #[.agg #[.int .i64 0, .int .i64 0], .bool false]) (.returned (.tuple #[.agg #[.int .i64 0, .int .i64 0], .bool false])) W) := Lib.hid fun W hb2 => by
      refine ⟨rfl, ?_, Chg.of_below hb2⟩
      unfold imDrop
      rw [hh, if_neg (by decide)]
      exact (h.later hf.n1 hb2).more (Nat.le_succ m)
    have HBA := Lib.hid hbA
    clear h hf hk hh hA hbA hs hv hg0
    go_enter Try.func80, Try.ntmps80
    go_wp2_with fail
    refine HG.out.mono ?_
    rintro e w1 ⟨rfl, hb1⟩
    have hb2 := Below.next hb1 (below_new w1 (.cells #[.int .i64 0, .int .i64 0] 99))
    have HT1 := Lib.hid (HTW.out.below hb2)
    have HF := Lib.hid (And.intro ((HTW.out.below hb2).put (.int .i64 0) (.int .i64 0)) (HO.out _ (bl_set2 (Below.next HBA.out hb2) (Nat.le_refl _) (.int .i64 0) (.int .i64 0))))
    obtain ⟨⟨z0, z1⟩, z2, z3⟩ := HT1.out
    clear hb1 hb2 HO HG HTW HBA
    go_wp2
    obtain ⟨⟨⟨q0, q1⟩, _⟩, hf⟩ := HF.out
    exact bodyPost_ret (v := .tuple #[.agg #[.int .i64 0, .int .i64 0], .bool false]) (by simp [results, Try.results80, go_sem, q0, q1]) rfl hf
  | true =>
    rw [hh] at HG
    have HX : Hid (∀ W, Below w.heap.size w W → Im W B bs bm m x) := Lib.hid fun W hb => h.later hf.n1 hb
    have HSH : Hid (∀ W, Below w.heap.size w W → Calls Try.prog 85 #[.pointer (some ⟨B, 0, none⟩), .int .u64 k] W fun e w' => e = .returned (.int .i64 (shI x.n k : Nat)) ∧ Drawn W w') := Lib.hid fun W hb => imShard_any (HX.out W hb) hf hk
    have HCS : Hid (∀ W, Below w.heap.size w W → W.cell? ⟨B, 0, none⟩ = some (.slice (some ⟨bs, 0, none⟩) x.n x.n) ∧ W.cell? ⟨bs, shI x.n k, none⟩ = some (.map (some (bm (shI x.n k))))) := Lib.hid fun W hb => ⟨(HX.out W hb).c0, (HX.out W hb).sh _ hs⟩
    have HP : Hid (∀ W, Below w.heap.size w W → ∃ w2, (∀ ty, (Builtin.delete_ #[211, 118] ty #[.map (some (bm (shI x.n k))), .int .u64 k]).run Try.prog W = .ok (.tuple #[]) w2) ∧
        (w2.cell? ⟨B, 1, none⟩ = some (.int .i64 (x.v : Int)) ∧ w2.frozen? ⟨B, 1, none⟩ = false ∧ Im (w2.setCell ⟨B, 1, none⟩ (.int .i64 ((x.v : Int) + 1))) B bs bm (m + 1) (imDrop x k) ∧ Chg (ImM B bs bm x.n) W (w2.setCell ⟨B, 1, none⟩ (.int .i64 ((x.v : Int) + 1))))) := Lib.hid fun W hb => by
      have hW := HX.out W hb
      have hfn := imHas_true hh
      obtain ⟨w2, hrun, hmp, ht⟩ := (hW.mp _ hs).drop hk (by show (if shI x.n k = shI x.n k then _ else _) ≠ none; rw [if_pos rfl]; exact hfn)
      have hBm : B ≠ bm (shI x.n k) := (hW.mp _ hs).not_cell hW.c0
      have q := ht.grown.block B (hW.row hf).1 (fun e => hBm (by injection e))
      have hcd := fun i => cntI_del (n := x.n) hf.rise hfn i
      have hti := hW.turn (k := k) (L := delI x.L k) hf.n1 ht hmp (Nat.le_refl m) (fun j hj => ?_) ?_ (fun j hj => ?_) (fun i hi => ?_) (x.v + 1)
      · rw [Int.natCast_add] at hti
        refine ⟨w2, hrun, (World.cell?_of_block (w := W) q).trans hW.c1.1, (World.frozen?_of_block (w := W) q).trans hW.c1.2, ?_, hti.2⟩
        unfold imDrop
        rw [hh]
        exact hti.1.more (Nat.le_succ m)
      · show (if j = k then none else if shI x.n j = shI x.n k then findI x.L j else none) = _
        rw [findI_del]
        by_cases e : j = k
        · rw [if_pos e, if_pos e]
          split <;> rfl
        · rw [if_neg e, if_neg e]
      · have := hcd (shI x.n k)
        rw [if_pos rfl] at this
        omega
      · rw [findI_del, if_neg hj]
      · have := hcd i
        rw [if_neg (fun e => hi e.symm)] at this
        exact this
    have HPL : Hid (∀ b, ImM B bs bm x.n b → b < w.heap.size) := Lib.hid fun b hb => h.lt hf.n1 hb
    have HN := Lib.hid (show (imDrop x k).n = x.n by unfold imDrop; split <;> rfl)
    have HBA := Lib.hid hbA
    generalize imGet x k = gr at *
    obtain ⟨gs, gv⟩ := gr
    unfold refV at *
    have hmix : Try.prog.follows .mixedOrders = true := by kernel_rfl
    clear h hf hk hh hA hbA HX
    generalize hfin : imDrop x k = y at *
    generalize shI x.n k = sk at *
    generalize bm sk = bk at *
    generalize hvv : x.v = xv at *
    have hv1 : (xv : Int) < 100000 := by omega
    clear hfin hvv
    generalize x.n = n at *
    have hs0 : (0 : Int) ≤ (sk : Int) := by omega
    have hs1 : (sk : Int) < (n : Int) := by omega
    go_enter Try.func80, Try.ntmps80
    go_wp2_with fail
    refine HG.out.mono ?_
    rintro e w1 ⟨rfl, hb1⟩
    have HB1 := Lib.hid (Below.next HBA.out (Below.next hb1 (below_new w1 (.cells #[.int .i64 gs, .int .i64 gv] 99))))
    have HTW1 := Lib.hid (HTW.out.below (Below.next hb1 (below_new w1 (.cells #[.int .i64 gs, .int .i64 gv] 99))))
    have HTG := Lib.hid (Two.new w1 (.int .i64 gs) (.int .i64 gv) 99)
    have HSZ := Lib.hid (Nat.le_trans HBA.out.size hb1.size)
    clear hb1 HG HTW HBA
    go_upto_region 4 with (fail)
    generalize w1.alloc (.cells #[.int .i64 gs, .int .i64 gv] 99) = W0 at *
    obtain ⟨R0, hR0⟩ : ∃ R0, w1.heap.size = R0 := ⟨_, rfl⟩
    rw [hR0] at HTG HSZ
    rw [hR0]
    have HR0 : Hid (w.heap.size ≤ R0) := Lib.hid HSZ.out
    have HALL : Hid (∀ W, Drawn W0 W → W.cell? ⟨B, 0, none⟩ = some (.slice (some ⟨bs, 0, none⟩) n n) ∧ W.cell? ⟨bs, sk, none⟩ = some (.map (some bk)) ∧ ∃ w2, (∀ ty, (Builtin.delete_ #[211, 118] ty #[.map (some bk), .int .u64 k]).run Try.prog W = .ok (.tuple #[]) w2) ∧
        (w2.cell? ⟨B, 1, none⟩ = some (.int .i64 (xv : Int)) ∧ w2.frozen? ⟨B, 1, none⟩ = false ∧ Im (w2.setCell ⟨B, 1, none⟩ (.int .i64 ((xv : Int) + 1))) B bs bm (m + 1) y ∧ Chg (ImM B bs bm n) W0 (w2.setCell ⟨B, 1, none⟩ (.int .i64 ((xv : Int) + 1))))) := Lib.hid fun W hd => by
      have hb := HB1.out.trans (hd.below _)
      obtain ⟨w2, a1, a2, a3, a4, a5⟩ := HP.out W hb
      exact ⟨(HCS.out W hb).1, (HCS.out W hb).2, w2, a1, a2, a3, a4, (Chg.of_below (hd.below _)).trans a5 (fun b e => .inl e)⟩
    have HSH : Hid (∀ W, Drawn W0 W → Calls Try.prog 85 #[.pointer (some ⟨B, 0, none⟩), .int .u64 k] W fun e w' => e = .returned (.int .i64 (sk : Nat)) ∧ Drawn W w') := Lib.hid fun W hd => HSH.out W (HB1.out.trans (hd.below _))
    clear HCS HP hR0
    refine region_once 35 hmix rfl (VO [some (.pointer (some ⟨B, 0, none⟩)), some (.pointer (some ⟨B, 0, none⟩)), some (.pointer (some ⟨B, 0, none⟩)), some (.slice (some ⟨bs, 0, none⟩) n n), some (.pointer (some ⟨B, 0, none⟩)), some (.int .u64 k), some (.int .i64 (sk : Int)), some (.pointer (some ⟨bs, sk, none⟩)), some (.map (some bk)), some (.int .u64 k), none]) (JDraw W0 (fun w2 => w2.cell? ⟨B, 1, none⟩ = some (.int .i64 (xv : Int)) ∧ w2.frozen? ⟨B, 1, none⟩ = false ∧ Im (w2.setCell ⟨B, 1, none⟩ (.int .i64 ((xv : Int) + 1))) B bs bm (m + 1) y ∧ Chg (ImM B bs bm n) W0 (w2.setCell ⟨B, 1, none⟩ (.int .i64 ((xv : Int) + 1)))) 10) (by kernel_rfl) (JDraw.start _ _ (Drawn.refl.step 1)) ?steps [17, 18, 19, 20, 21, 22, 23, 24, 25, 26] rfl ?fin
    case steps =>
      refine ⟨?_, ?_, ?_, ?_, ?_, ?_, ?_, ?_, ?_, ?_, ?_, trivial⟩
      · intro L a W hJ ho hL hc hw
        have e0 : a.eval (.tmp 0) = .pointer (some ⟨B, 0, none⟩) := ho 0 rfl
        clear hc hw hL ho
        exact once_run (v := .pointer (some ⟨B, 0, none⟩)) (wantO_none rfl) (by simp only [execOp, e0]; rfl) (fun u hu => by simpa using hu) (hJ.read (by decide))
      · intro L a W hJ ho hL hc hw
        have e17 : a.eval (.tmp 17) = .pointer (some ⟨B, 0, none⟩) := (hw 0 rfl).2 17 rfl _ rfl
        clear hc hw hL ho
        exact once_run (v := .pointer (some ⟨B, 0, none⟩)) (wantO_none rfl) (by simp only [execOp, e17]; go_simp) (fun u hu => by simpa using hu) (hJ.read (by decide))
      · intro L a W hJ ho hL hc hw
        have e18 : a.eval (.tmp 18) = .pointer (some ⟨B, 0, none⟩) := (hw 1 rfl).2 18 rfl _ rfl
        clear hc hw hL ho
        exact once_run (v := .pointer (some ⟨B, 0, none⟩)) (wantO_none rfl) (by simp only [execOp, e18]; go_simp) (fun u hu => by simpa using hu) (hJ.read (by decide))
      · intro L a W hJ ho hL hc hw
        have e19 : a.eval (.tmp 19) = .pointer (some ⟨B, 0, none⟩) := (hw 2 rfl).2 19 rfl _ rfl
        have hlm : L 10 = false := ls_false (fun h => hc 7 3 rfl (hc 8 7 rfl (hc 10 8 rfl h))) hL
        obtain ⟨k0, k1, _⟩ := HALL.out W (hJ.1 hlm)
        clear hc hw hL ho
        exact once_run (v := .slice (some ⟨bs, 0, none⟩) n n) (wantO_none rfl) (by simp only [execOp, e19]; go_simp) (fun u hu => by simpa using hu) (hJ.read (by decide))
      · intro L a W hJ ho hL hc hw
        have e0 : a.eval (.tmp 0) = .pointer (some ⟨B, 0, none⟩) := ho 0 rfl
        clear hc hw hL ho
        exact once_run (v := .pointer (some ⟨B, 0, none⟩)) (wantO_none rfl) (by simp only [execOp, e0]; rfl) (fun u hu => by simpa using hu) (hJ.read (by decide))
      · intro L a W hJ ho hL hc hw
        have e1 : a.eval (.tmp 1) = .int .u64 k := ho 1 rfl
        clear hc hw hL ho
        exact once_run (v := .int .u64 k) (wantO_none rfl) (by simp only [execOp, e1]; rfl) (fun u hu => by simpa using hu) (hJ.read (by decide))
      · intro L a W hJ ho hL hc hw
        have e21 : a.eval (.tmp 21) = .pointer (some ⟨B, 0, none⟩) := (hw 4 rfl).2 21 rfl _ rfl
        have e22 : a.eval (.tmp 22) = .int .u64 k := (hw 5 rfl).2 22 rfl _ rfl
        have hlm : L 10 = false := ls_false (fun h => hc 7 6 rfl (hc 8 7 rfl (hc 10 8 rfl h))) hL
        exact once_call (wantO_none rfl) rfl (args := #[.pointer (some ⟨B, 0, none⟩), .int .u64 k]) (by simp [e21, e22]) (by go_simp) (HSH.out W (hJ.1 hlm)) (fun e W' h => ⟨_, h.1, (fun u hu => by simpa using hu), hJ.step (by decide) hlm h.2⟩)
      · intro L a W hJ ho hL hc hw
        have e20 : a.eval (.tmp 20) = .slice (some ⟨bs, 0, none⟩) n n := (hw 3 rfl).2 20 rfl _ rfl
        have e23 : a.eval (.tmp 23) = .int .i64 (sk : Int) := (hw 6 rfl).2 23 rfl _ rfl
        clear hc hw hL ho
        exact once_run (v := .pointer (some ⟨bs, sk, none⟩)) (wantO_none rfl) (by simp only [execOp, e20, e23]; simp only [Sem.run_bind, idxM bs sk n W hs0 hs1, Result.andThen_ok, Sem.run_pure]) (fun u hu => by simpa using hu) (hJ.read (by decide))
      · intro L a W hJ ho hL hc hw
        have e24 : a.eval (.tmp 24) = .pointer (some ⟨bs, sk, none⟩) := (hw 7 rfl).2 24 rfl _ rfl
        have hlm : L 10 = false := ls_false (hc 10 8 rfl) hL
        obtain ⟨k0, k1, _⟩ := HALL.out W (hJ.1 hlm)
        clear hc hw hL ho
        exact once_run (v := .map (some bk)) (wantO_none rfl) (by simp only [execOp, e24]; go_simp) (fun u hu => by simpa using hu) (hJ.read (by decide))
      · intro L a W hJ ho hL hc hw
        have e1 : a.eval (.tmp 1) = .int .u64 k := ho 1 rfl
        clear hc hw hL ho
        exact once_run (v := .int .u64 k) (wantO_none rfl) (by simp only [execOp, e1]; rfl) (fun u hu => by simpa using hu) (hJ.read (by decide))
      · intro L a W hJ ho hL hc hw
        have e25 : a.eval (.tmp 25) = .map (some bk) := (hw 8 rfl).2 25 rfl _ rfl
        have e26 : a.eval (.tmp 26) = .int .u64 k := (hw 9 rfl).2 26 rfl _ rfl
        obtain ⟨_, _, w2, hrun, hF⟩ := HALL.out W (hJ.1 hL)
        clear ho hc hw
        exact once_run (v := .tuple #[]) (wantO_none rfl) (by simp only [execOp]; simp [resolve, invoke, builtin, e25, e26, hrun, Result.andThen]) (fun u hu => by simp at hu) (JDraw.turn hF)
    case fin =>
      intro L gg W hJ hall hv
      have g17 : gg 17 = .pointer (some ⟨B, 0, none⟩) := hv 0 17 rfl _ rfl
      have g18 : gg 18 = .pointer (some ⟨B, 0, none⟩) := hv 1 18 rfl _ rfl
      have g19 : gg 19 = .pointer (some ⟨B, 0, none⟩) := hv 2 19 rfl _ rfl
      have g20 : gg 20 = .slice (some ⟨bs, 0, none⟩) n n := hv 3 20 rfl _ rfl
      have g21 : gg 21 = .pointer (some ⟨B, 0, none⟩) := hv 4 21 rfl _ rfl
      have g22 : gg 22 = .int .u64 k := hv 5 22 rfl _ rfl
      have g23 : gg 23 = .int .i64 (sk : Int) := hv 6 23 rfl _ rfl
      have g24 : gg 24 = .pointer (some ⟨bs, sk, none⟩) := hv 7 24 rfl _ rfl
      have g25 : gg 25 = .map (some bk) := hv 8 25 rfl _ rfl
      have g26 : gg 26 = .int .u64 k := hv 9 26 rfl _ rfl
      simp only [List.foldl_cons, List.foldl_nil, List.setIfInBounds_toArray, List.set_cons_succ, List.set_cons_zero, g17, g18, g19, g20, g21, g22, g23, g24, g25, g26]
      clear g17 g18 g19 g20 g21 g22 g23 g24 g25 g26 hv
      obtain ⟨q0, q1, q2, q3⟩ := hJ.2 (hall 10 (by decide))
      have HI := Lib.hid q2
      have HCH := Lib.hid q3
      clear hJ hall HALL HSH q2 q3
      go_upto_region 6 with (fail)
      generalize W.setCell ⟨B, 1, none⟩ (.int .i64 ((xv : Int) + 1)) = W5 at *
      have hlt0 := cellX_lt HTW1.out.1.1
      have hltR := cellX_lt HTG.out.1.1
      have nP : ∀ b, w.heap.size ≤ b → ¬ ImM B bs bm n b := fun b hb e => by have := HPL.out b e; omega
      have HT5 : Hid (Two W5 w.heap.size (.int .i64 0) (.int .i64 0)) := Lib.hid ⟨⟨(HCH.out.cell (p := ⟨w.heap.size, 0, none⟩) hlt0 (nP _ (Nat.le_refl _))).trans HTW1.out.1.1, (HCH.out.cell (p := ⟨w.heap.size, 1, none⟩) hlt0 (nP _ (Nat.le_refl _))).trans HTW1.out.1.2⟩, (HCH.out.frozen (p := ⟨w.heap.size, 0, none⟩) hlt0 (nP _ (Nat.le_refl _))).trans HTW1.out.2.1, (HCH.out.frozen (p := ⟨w.heap.size, 1, none⟩) hlt0 (nP _ (Nat.le_refl _))).trans HTW1.out.2.2⟩
      have g0 := (HCH.out.cell (p := ⟨R0, 0, none⟩) hltR (nP _ HR0.out)).trans HTG.out.1.1
      have g1 := (HCH.out.cell (p := ⟨R0, 1, none⟩) hltR (nP _ HR0.out)).trans HTG.out.1.2
      have HFF : Hid (Two ((W5.setCell ⟨w.heap.size, 0, none⟩ (.int .i64 gs)).setCell ⟨w.heap.size, 1, none⟩ (.int .i64 gv)) w.heap.size (.int .i64 gs) (.int .i64 gv) ∧ ImOut w B bs bm (m + 1) n y (.tuple #[.agg #[.int .i64 gs, .int .i64 gv], .bool true]) (.returned (.tuple #[.agg #[.int .i64 gs, .int .i64 gv], .bool true])) ((W5.setCell ⟨w.heap.size, 0, none⟩ (.int .i64 gs)).setCell ⟨w.heap.size, 1, none⟩ (.int .i64 gv))) := Lib.hid (by
        refine ⟨HT5.out.put _ _, rfl, HI.out.same fun b hb => ?_, ?_⟩
        · have : b ≠ w.heap.size := fun e => nP b (by omega) (by rw [HN.out] at hb; exact hb)
          rw [Below.heap_setCell _ _ _ _ this, Below.heap_setCell _ _ _ _ this]
        · have c1 : Chg (ImM B bs bm n) w W5 := (Chg.of_below HB1.out).trans HCH.out (fun b e => .inl e)
          exact c1.trans (M' := fun b => b = w.heap.size) (Chg.setCell (M := fun b => b = w.heap.size) (Chg.setCell (M := fun b => b = w.heap.size) Chg.refl rfl _) rfl _) (fun b e => .inr (by omega)))
      obtain ⟨⟨z0, z1⟩, z2, z3⟩ := HT5.out
      clear HT5 HI HCH HTW1 HTG hlt0 hltR nP q0 q1 HPL HN
      go_wp2
      obtain ⟨⟨⟨q0, q1⟩, _⟩, hff⟩ := HFF.out
      exact bodyPost_ret (v := .tuple #[.agg #[.int .i64 gs, .int .i64 gv], .bool true]) (by simp [results, Try.results80, go_sem, q0, q1]) rfl hff
end

end Go.Proofs.Ytoaikdnooafjmaa
