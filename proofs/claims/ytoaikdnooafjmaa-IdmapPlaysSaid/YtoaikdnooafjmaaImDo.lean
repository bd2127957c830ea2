/- idmap's Shard, Get, by contract. -/
import Derived.Test.YtoaikdnooafjmaaImMem
import Derived.Test.YtoaikdnooafjmaaRngMix
import Derived.Test.YtoaikdnooafjmaaOnceBox
import Derived.Deep.RegionHeld3
import Derived.Deep.DeepCutAuto
import Derived.Handy
namespace Go.Proofs.Ytoaikdnooafjmaa
open Go.RowKit

theorem mix_id {k : Int} (h : IsU k) (w : World) : Calls Try.prog 148 #[.int .u64 k] w fun e w' => e = .returned (.int .u64 (mixI k : Nat)) ∧ w = w' := by
  have hk := h.lt
  have e : k = (((BitVec.ofNat 64 k.toNat).toNat : Nat) : Int) := by
    rw [BitVec.toNat_ofNat]
    omega
  have := Mix_any (BitVec.ofNat 64 k.toNat) w
  rw [← e] at this
  exact this
theorem below_id (k : Int) (n : Nat) (hn : n ≤ 64) (w : World) : Calls Try.prog 147 #[.int .u64 (mixI k : Nat), .int .u64 (n : Int)] w fun e w' => e = .returned (.int .u64 (shI n k : Nat)) ∧ w = w' :=
  Below_any (mixI k) n w (mixI_lt k) (by omega)
theorem imShard_nil (k : Int) (w : World) : Calls Try.prog 85 #[.pointer none, .int .u64 k] w fun e w' => e = .returned (.int .i64 0) ∧ w = w' := by
  go_enter Try.func85, Try.ntmps85
  go_wp2
  go_ret
  exact ⟨rfl, rfl⟩
theorem imLen_nil (w : World) : Calls Try.prog 83 #[.pointer none] w fun e w' => e = .returned (.int .i64 0) ∧ w = w' := by
  go_enter Try.func83, Try.ntmps83
  go_wp2
  go_ret
  exact ⟨rfl, rfl⟩
theorem imVer_nil (w : World) : Calls Try.prog 84 #[.pointer none] w fun e w' => e = .returned (.int .i64 0) ∧ w = w' := by
  go_enter Try.func84, Try.ntmps84
  go_wp2
  go_ret
  exact ⟨rfl, rfl⟩
theorem imSize_nil (k : Int) (w : World) : Calls Try.prog 87 #[.pointer none, .int .i64 k] w fun e w' => e = .returned (.int .i64 0) ∧ w = w' := by
  go_enter Try.func87, Try.ntmps87
  go_wp2
  go_ret
  exact ⟨rfl, rfl⟩
theorem imList_nil (w : World) : Calls Try.prog 90 #[.pointer none] w fun e w' => e = .returned (.slice none 0 0) ∧ Below w.heap.size w w' := by
  go_enter Try.func90, Try.ntmps90
  go_wp2
  go_ret
  exact ⟨rfl, Below.refl _ _⟩
theorem imPut_nil (k s g : Int) (w : World) : Calls Try.prog 78 #[.pointer none, .int .u64 k, .agg #[.int .i64 s, .int .i64 g]] w fun e w' => e = .returned (.bool false) ∧ Below w.heap.size w w' := by
  go_enter Try.func78, Try.ntmps78
  go_wp2
  go_ret
  exact ⟨rfl, below_new w _⟩
theorem imGet_nil (k : Int) (w : World) : Calls Try.prog 81 #[.pointer none, .int .u64 k] w fun e w' => e = .returned (.tuple #[.agg #[.int .i64 0, .int .i64 0], .bool false]) ∧ Below w.heap.size w w' := by
  go_enter Try.func81, Try.ntmps81
  go_wp2
  have q0 : (w.alloc (.cells #[.int .i64 0, .int .i64 0] 99)).cell? ⟨w.heap.size, 0, none⟩ = some (.int .i64 0) := by go_cell
  have q1 : (w.alloc (.cells #[.int .i64 0, .int .i64 0] 99)).cell? ⟨w.heap.size, 1, none⟩ = some (.int .i64 0) := by go_cell
  exact bodyPost_ret (v := .tuple #[.agg #[.int .i64 0, .int .i64 0], .bool false]) (by simp [results, Try.results81, go_sem, q0, q1]) rfl ⟨rfl, below_new w _⟩
theorem idxM (bs sk n : Nat) (W : World) (hs0 : (0 : Int) ≤ (sk : Int)) (hs1 : (sk : Int) < (n : Int)) : (Instr.indexAt 208 (.slice (some ⟨bs, 0, none⟩) n n) (.int .i64 (sk : Int))).run Try.prog W = .ok (.pointer (some ⟨bs, sk, none⟩)) W := by
  go_simp
section
variable {w : World} {B bs m : Nat} {bm : Nat → Nat} {x : IX}
theorem imShard_any (h : Im w B bs bm m x) (hf : IFit m x) {k : Int} (hk : IsU k) : Calls Try.prog 85 #[.pointer (some ⟨B, 0, none⟩), .int .u64 k] w fun e w' => e = .returned (.int .i64 (shI x.n k : Nat)) ∧ Drawn w w' := by
  have c0 := h.c0
  have hn := hf.n64
  have hs := shI_lt hf.n1 k
  have HM := Lib.hid (fun q => mix_id hk (w.drewN q))
  have HB := Lib.hid (fun q => below_id k x.n hn (w.drewN q))
  clear h hf hk
  generalize mixI k = mk at *
  generalize shI x.n k = sk at *
  generalize x.n = n at *
  have hn1 : (n : Int) ≤ 64 := by omega
  have hn0 : (0 : Int) ≤ (n : Int) := by omega
  have hs1 : (sk : Int) ≤ 64 := by omega
  have hs0 : (0 : Int) ≤ (sk : Int) := by omega
  go_enter Try.func85, Try.ntmps85
  go_wp2_with fail
  go_quiet ((first | (go_at_call 148; exact quiet_same (HM.out _)) | (go_at_call 147; exact quiet_same (HB.out _))))
  go_wp2
  go_ret
  exact ⟨rfl, Drawn.refl.step _⟩
theorem Im.drawn (h : Im w B bs bm m x) {w' : World} (hd : Drawn w w') : Im w' B bs bm m x := by
  obtain ⟨q, rfl⟩ := hd
  exact h.same fun _ _ => rfl
set_option maxRecDepth 100000 in
set_option maxHeartbeats 4000000 in
theorem imGet_any (h : Im w B bs bm m x) (hf : IFit m x) {k : Int} (hk : IsU k) : Calls Try.prog 81 #[.pointer (some ⟨B, 0, none⟩), .int .u64 k] w fun e w' => e = .returned (.tuple #[refV (imGet x k), .bool (imHas x k)]) ∧ Below w.heap.size w w' := by
  have hs := shI_lt hf.n1 k
  have hB : B < w.heap.size := h.lt hf.n1 (.inl rfl)
  have hS : bs < w.heap.size := h.lt hf.n1 (.inr (.inl rfl))
  have HALL : Hid (∀ W, Below w.heap.size w W → W.cell? ⟨B, 0, none⟩ = some (.slice (some ⟨bs, 0, none⟩) x.n x.n) ∧ W.cell? ⟨bs, shI x.n k, none⟩ = some (.map (some (bm (shI x.n k)))) ∧ (Instr.lookup 211 (.map (some (bm (shI x.n k)))) (.int .u64 k) true).run Try.prog W = .ok (.tuple #[refV (imGet x k), .bool (imHas x k)]) W ∧
      Calls Try.prog 85 #[.pointer (some ⟨B, 0, none⟩), .int .u64 k] W fun e w' => e = .returned (.int .i64 (shI x.n k : Nat)) ∧ Drawn W w') := Lib.hid fun W hb => by
    have h2 := h.later hf.n1 hb
    refine ⟨h2.c0, h2.sh _ hs, ?_, imShard_any h2 hf hk⟩
    have := (h2.mp _ hs).look hk
    rw [if_pos rfl] at this
    exact this
  have hn := hf.n64
  clear h hf hk
  unfold refV at *
  generalize imGet x k = r at *
  generalize imHas x k = bb at *
  generalize shI x.n k = sk at *
  generalize bm sk = bk at *
  generalize x.n = n at *
  have hs0 : (0 : Int) ≤ (sk : Int) := by omega
  have hs1 : (sk : Int) < (n : Int) := by omega
  obtain ⟨s, g⟩ := r
  go_enter Try.func81, Try.ntmps81
  go_upto_region 3 with (fail)
  have HR := Lib.hid (Two.new w (.int .i64 0) (.int .i64 0) 99)
  have HW0 := Lib.hid (below_new w (.cells #[.int .i64 0, .int .i64 0] 99))
  generalize w.alloc (.cells #[.int .i64 0, .int .i64 0] 99) = W0 at *
  obtain ⟨E0, hE0⟩ : ∃ E0, W0.heap.size = E0 := ⟨_, rfl⟩
  have HE := Lib.hid hE0
  have HEB : Hid (W0.heap.size ≤ E0) := Lib.hid (by omega)
  obtain ⟨W1, hW1⟩ : ∃ W1, W1 = W0.alloc (.cells #[.int .i64 0, .int .i64 0] 99) := ⟨_, rfl⟩
  have HW1 := Lib.hid hW1
  have HT : Hid (Two W1 E0 (.int .i64 0) (.int .i64 0)) := Lib.hid (by rw [hW1, ← hE0]; exact Two.new W0 _ _ _)
  have HB1 : Hid (Below W0.heap.size W0 W1) := Lib.hid (by rw [hW1]; exact below_new _ _)
  have HALL2 := HALL
  have HALL : Hid (∀ W, Below W0.heap.size W0 W → W.cell? ⟨B, 0, none⟩ = some (.slice (some ⟨bs, 0, none⟩) n n) ∧ W.cell? ⟨bs, sk, none⟩ = some (.map (some bk)) ∧ (Instr.lookup 211 (.map (some bk)) (.int .u64 k) true).run Try.prog W = .ok (.tuple #[.agg #[.int .i64 s, .int .i64 g], .bool bb]) W) := Lib.hid fun W hb => by
    obtain ⟨a, b, c, _⟩ := HALL2.out W (Below.next HW0.out hb)
    exact ⟨a, b, c⟩
  have HSH : Hid (∀ W, Below W0.heap.size W0 W → Calls Try.prog 85 #[.pointer (some ⟨B, 0, none⟩), .int .u64 k] W fun e w' => e = .returned (.int .i64 (sk : Nat)) ∧ Drawn W w') := Lib.hid fun W hb => (HALL2.out W (Below.next HW0.out hb)).2.2.2
  have HJB : Hid (∀ L W, JBox W0 W1 (fun W => Two W E0 (.int .i64 s) (.int .i64 g) ∧ Below W0.heap.size W0 W) 14 15 L W → Below W0.heap.size W0 W) := Lib.hid fun L W hJ => hJ.below (Below.refl _ _) HB1.out (fun _ h => h.2)
  have hmix : Try.prog.follows .mixedOrders = true := by kernel_rfl
  clear HALL2 hW1 hE0
  refine region_once 27 hmix rfl (VO [some (.pointer (some ⟨B, 0, none⟩)), some (.pointer (some ⟨B, 0, none⟩)), some (.pointer (some ⟨B, 0, none⟩)), some (.slice (some ⟨bs, 0, none⟩) n n), some (.pointer (some ⟨B, 0, none⟩)), some (.int .u64 k), some (.int .i64 (sk : Int)), some (.pointer (some ⟨bs, sk, none⟩)), some (.map (some bk)), some (.int .u64 k), some (.tuple #[.agg #[.int .i64 s, .int .i64 g], .bool bb]), some (.tuple #[.agg #[.int .i64 s, .int .i64 g], .bool bb]), some (.agg #[.int .i64 s, .int .i64 g]), some (.bool bb), some (.pointer (some ⟨E0, 0, none⟩)), none, some (.bool bb)]) (JBox W0 W1 (fun W => Two W E0 (.int .i64 s) (.int .i64 g) ∧ Below W0.heap.size W0 W) 14 15) (by kernel_rfl) (JBox.start _ _ _ _ (Drawn.refl.step 1)) ?steps [12, 13, 14, 15, 16, 17, 18, 19, 20, 21, 22, 11, 23, 24, 6, 7] rfl ?fin
  case steps =>
    refine ⟨?_, ?_, ?_, ?_, ?_, ?_, ?_, ?_, ?_, ?_, ?_, ?_, ?_, ?_, ?_, ?_, ?_, trivial⟩
    · intro L a W hJ ho hL hc hw
      have e0 : a.eval (.tmp 0) = .pointer (some ⟨B, 0, none⟩) := ho 0 rfl
      clear hc hw hL ho
      exact once_run (v := .pointer (some ⟨B, 0, none⟩)) (wantO_none rfl) (by simp only [execOp, e0]; rfl) (fun u hu => by simpa using hu) (hJ.read (by decide) (by decide))
    · intro L a W hJ ho hL hc hw
      have e12 : a.eval (.tmp 12) = .pointer (some ⟨B, 0, none⟩) := (hw 0 rfl).2 12 rfl _ rfl
      clear hc hw hL ho
      exact once_run (v := .pointer (some ⟨B, 0, none⟩)) (wantO_none rfl) (by simp only [execOp, e12]; go_simp) (fun u hu => by simpa using hu) (hJ.read (by decide) (by decide))
    · intro L a W hJ ho hL hc hw
      have e13 : a.eval (.tmp 13) = .pointer (some ⟨B, 0, none⟩) := (hw 1 rfl).2 13 rfl _ rfl
      clear hc hw hL ho
      exact once_run (v := .pointer (some ⟨B, 0, none⟩)) (wantO_none rfl) (by simp only [execOp, e13]; go_simp) (fun u hu => by simpa using hu) (hJ.read (by decide) (by decide))
    · intro L a W hJ ho hL hc hw
      have e14 : a.eval (.tmp 14) = .pointer (some ⟨B, 0, none⟩) := (hw 2 rfl).2 14 rfl _ rfl
      have hk := HALL.out W (HJB.out L W hJ)
      obtain ⟨k0, k1, k2⟩ := hk
      clear hc hw hL ho
      exact once_run (v := .slice (some ⟨bs, 0, none⟩) n n) (wantO_none rfl) (by simp only [execOp, e14]; go_simp) (fun u hu => by simpa using hu) (hJ.read (by decide) (by decide))
    · intro L a W hJ ho hL hc hw
      have e0 : a.eval (.tmp 0) = .pointer (some ⟨B, 0, none⟩) := ho 0 rfl
      clear hc hw hL ho
      exact once_run (v := .pointer (some ⟨B, 0, none⟩)) (wantO_none rfl) (by simp only [execOp, e0]; rfl) (fun u hu => by simpa using hu) (hJ.read (by decide) (by decide))
    · intro L a W hJ ho hL hc hw
      have e1 : a.eval (.tmp 1) = .int .u64 k := ho 1 rfl
      clear hc hw hL ho
      exact once_run (v := .int .u64 k) (wantO_none rfl) (by simp only [execOp, e1]; rfl) (fun u hu => by simpa using hu) (hJ.read (by decide) (by decide))
    · intro L a W hJ ho hL hc hw
      have e16 : a.eval (.tmp 16) = .pointer (some ⟨B, 0, none⟩) := (hw 4 rfl).2 16 rfl _ rfl
      have e17 : a.eval (.tmp 17) = .int .u64 k := (hw 5 rfl).2 17 rfl _ rfl
      exact once_call (wantO_none rfl) rfl (args := #[.pointer (some ⟨B, 0, none⟩), .int .u64 k]) (by simp [e16, e17]) (by go_simp) (HSH.out W (HJB.out L W hJ)) (fun e W' h => ⟨_, h.1, (fun u hu => by simpa using hu), hJ.step (by decide) (by decide) (ls_false (hc 15 6 rfl) hL) h.2⟩)
    · intro L a W hJ ho hL hc hw
      have e15 : a.eval (.tmp 15) = .slice (some ⟨bs, 0, none⟩) n n := (hw 3 rfl).2 15 rfl _ rfl
      have e18 : a.eval (.tmp 18) = .int .i64 (sk : Int) := (hw 6 rfl).2 18 rfl _ rfl
      clear hc hw hL ho
      exact once_run (v := .pointer (some ⟨bs, sk, none⟩)) (wantO_none rfl) (by simp only [execOp, e15, e18]; simp only [Sem.run_bind, idxM bs sk n W hs0 hs1, Result.andThen_ok, Sem.run_pure]) (fun u hu => by simpa using hu) (hJ.read (by decide) (by decide))
    · intro L a W hJ ho hL hc hw
      have e19 : a.eval (.tmp 19) = .pointer (some ⟨bs, sk, none⟩) := (hw 7 rfl).2 19 rfl _ rfl
      have hk := HALL.out W (HJB.out L W hJ)
      obtain ⟨k0, k1, k2⟩ := hk
      clear hc hw hL ho
      exact once_run (v := .map (some bk)) (wantO_none rfl) (by simp only [execOp, e19]; go_simp) (fun u hu => by simpa using hu) (hJ.read (by decide) (by decide))
    · intro L a W hJ ho hL hc hw
      have e1 : a.eval (.tmp 1) = .int .u64 k := ho 1 rfl
      clear hc hw hL ho
      exact once_run (v := .int .u64 k) (wantO_none rfl) (by simp only [execOp, e1]; rfl) (fun u hu => by simpa using hu) (hJ.read (by decide) (by decide))
    · intro L a W hJ ho hL hc hw
      have e20 : a.eval (.tmp 20) = .map (some bk) := (hw 8 rfl).2 20 rfl _ rfl
      have e21 : a.eval (.tmp 21) = .int .u64 k := (hw 9 rfl).2 21 rfl _ rfl
      have hk := HALL.out W (HJB.out L W hJ)
      obtain ⟨k0, k1, k2⟩ := hk
      clear hc hw hL ho
      exact once_run (v := .tuple #[.agg #[.int .i64 s, .int .i64 g], .bool bb]) (wantO_none rfl) (by simp only [execOp, e20, e21]; go_simp) (fun u hu => by simpa using hu) (hJ.read (by decide) (by decide))
    · intro L a W hJ ho hL hc hw
      have e22 : a.eval (.tmp 22) = .tuple #[.agg #[.int .i64 s, .int .i64 g], .bool bb] := (hw 10 rfl).2 22 rfl _ rfl
      clear hc hw hL ho
      exact once_run (v := .tuple #[.agg #[.int .i64 s, .int .i64 g], .bool bb]) (wantO_none rfl) (by simp only [execOp, e22]; rfl) (fun u hu => by simpa using hu) (hJ.read (by decide) (by decide))
    · intro L a W hJ ho hL hc hw
      have e11 : a.eval (.tmp 11) = .tuple #[.agg #[.int .i64 s, .int .i64 g], .bool bb] := (hw 11 rfl).2 11 rfl _ rfl
      clear hc hw hL ho
      exact once_run (v := .agg #[.int .i64 s, .int .i64 g]) (wantO_none rfl) (by simp only [execOp, e11]; go_simp) (fun u hu => by simpa using hu) (hJ.read (by decide) (by decide))
    · intro L a W hJ ho hL hc hw
      have e11 : a.eval (.tmp 11) = .tuple #[.agg #[.int .i64 s, .int .i64 g], .bool bb] := (hw 11 rfl).2 11 rfl _ rfl
      clear hc hw hL ho
      exact once_run (v := .bool bb) (wantO_none rfl) (by simp only [execOp, e11]; go_simp) (fun u hu => by simpa using hu) (hJ.read (by decide) (by decide))
    · intro L a W hJ ho hL hc hw
      have hal := hJ.alloc (by decide) (ls_false (hc 15 14 rfl) hL) hL HW1.out
      have hE : W.heap.size = E0 := hal.2.trans HE.out
      exact once_run (v := .pointer (some ⟨E0, 0, none⟩)) (wantO_none rfl) (by simp only [execOp]; go_simp) (fun u hu => by simpa using hu) (hal.1)
    · intro L a W hJ ho hL hc hw
      have e6 : a.eval (.tmp 6) = .pointer (some ⟨E0, 0, none⟩) := (hw 14 rfl).2 6 rfl _ rfl
      have e23 : a.eval (.tmp 23) = .agg #[.int .i64 s, .int .i64 g] := (hw 12 rfl).2 23 rfl _ rfl
      have hla : L 14 = true := (hw 14 rfl).1
      have hdr := hJ.2.1 hL hla
      obtain ⟨⟨z0, z1⟩, z2, z3⟩ := HT.out.drawn hdr
      exact once_store (wantO_none rfl) rfl (W' := ((W.setCell ⟨E0, 0, none⟩ (.int .i64 s)).setCell ⟨E0, 1, none⟩ (.int .i64 g))) (by simp only [execOp, e6, e23]; go_simp) (fun u hu => by simp at hu) (hJ.store (by decide) hL hla (fun _ => ⟨((HT.out.drawn hdr).put _ _), bl_set2 (HB1.out.trans (hdr.below _)) HEB.out _ _⟩))
    · intro L a W hJ ho hL hc hw
      have e24 : a.eval (.tmp 24) = .bool bb := (hw 13 rfl).2 24 rfl _ rfl
      clear hc hw hL ho
      exact once_run (v := .bool bb) (wantO_none rfl) (by simp only [execOp, e24]; rfl) (fun u hu => by simpa using hu) (hJ.read (by decide) (by decide))
  case fin =>
    intro L gg W hJ hall hv
    have g12 : gg 12 = .pointer (some ⟨B, 0, none⟩) := hv 0 12 rfl _ rfl
    have g13 : gg 13 = .pointer (some ⟨B, 0, none⟩) := hv 1 13 rfl _ rfl
    have g14 : gg 14 = .pointer (some ⟨B, 0, none⟩) := hv 2 14 rfl _ rfl
    have g15 : gg 15 = .slice (some ⟨bs, 0, none⟩) n n := hv 3 15 rfl _ rfl
    have g16 : gg 16 = .pointer (some ⟨B, 0, none⟩) := hv 4 16 rfl _ rfl
    have g17 : gg 17 = .int .u64 k := hv 5 17 rfl _ rfl
    have g18 : gg 18 = .int .i64 (sk : Int) := hv 6 18 rfl _ rfl
    have g19 : gg 19 = .pointer (some ⟨bs, sk, none⟩) := hv 7 19 rfl _ rfl
    have g20 : gg 20 = .map (some bk) := hv 8 20 rfl _ rfl
    have g21 : gg 21 = .int .u64 k := hv 9 21 rfl _ rfl
    have g22 : gg 22 = .tuple #[.agg #[.int .i64 s, .int .i64 g], .bool bb] := hv 10 22 rfl _ rfl
    have g11 : gg 11 = .tuple #[.agg #[.int .i64 s, .int .i64 g], .bool bb] := hv 11 11 rfl _ rfl
    have g23 : gg 23 = .agg #[.int .i64 s, .int .i64 g] := hv 12 23 rfl _ rfl
    have g24 : gg 24 = .bool bb := hv 13 24 rfl _ rfl
    have g6 : gg 6 = .pointer (some ⟨E0, 0, none⟩) := hv 14 6 rfl _ rfl
    have g7 : gg 7 = .bool bb := hv 16 7 rfl _ rfl
    simp only [List.foldl_cons, List.foldl_nil, List.setIfInBounds_toArray, List.set_cons_succ, List.set_cons_zero, g12, g13, g14, g15, g16, g17, g18, g19, g20, g21, g22, g11, g23, g24, g6, g7]
    clear g12 g13 g14 g15 g16 g17 g18 g19 g20 g21 g22 g11 g23 g24 g6 g7 hv
    obtain ⟨⟨⟨b0, b1⟩, b2, b3⟩, hbw⟩ := hJ.1 (hall 15 (by decide))
    obtain ⟨⟨r0, r1⟩, r2, r3⟩ := HR.out.below hbw
    have HF := Lib.hid (And.intro ((HR.out.below hbw).put (.int .i64 s) (.int .i64 g)) (bl_set2 (Below.next HW0.out hbw) (Nat.le_refl w.heap.size) (.int .i64 s) (.int .i64 g)))
    clear hJ hall hbw HJB HSH HALL HR
    go_wp2
    obtain ⟨⟨⟨q0, q1⟩, _⟩, hbf⟩ := HF.out
    exact bodyPost_ret (v := .tuple #[.agg #[.int .i64 s, .int .i64 g], .bool bb]) (by simp [results, Try.results81, go_sem, q0, q1]) rfl ⟨rfl, hbf⟩
end

end Go.Proofs.Ytoaikdnooafjmaa
