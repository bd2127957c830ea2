/- The law's own question of the answers that the document gives (lives), for package idmap: the answer is 'true'. -/
import Derived.Test.YtoaikdnooafjmaaImJ
import Derived.Test.YtoaikdnooafjmaaImSame
import Derived.Test.YtoaikdnooafjmaaOnceBox
import Derived.Test.YtoaikdnooafjmaaHeldN
namespace Go.Proofs.Ytoaikdnooafjmaa
open Go.RowKit

deriving instance DecidableEq for IX
def iA : IX := ⟨4, [(9, 3, 1)], 1⟩
def iB : IX := ⟨4, [], 2⟩
def iC : IX := ⟨4, [(8, 3, 1)], 3⟩
def iD : IX := ⟨4, [(2, 3, 1)], 3⟩
def iE : IX := ⟨4, [(2, 3, 1), (8, 3, 1)], 4⟩
/-- What each operation of the last region tells. -/
def livesN (B : Nat) : List DN := [.c (.int .i64 0), .c (.bool true), .c (.bool true), .c (.int .i64 6), .c (.bool true), .c (.bool true), .c (.bool true), .c (.bool true), .c (.bool true), .c (.bool true), .c (.bool false), .c (.bool true), .c (.bool true), .c (.bool true), .c (.agg #[.int .i64 3, .int .i64 1]), .c (.agg #[.int .i64 3, .int .i64 1]), .c (.bool true), .c (.bool true), .c (.bool true), .c (.bool true), .c (.bool true), .c (.bool true), .c (.int .i64 1), .c (.bool true), .c (.bool true), .c (.bool true), .c (.agg #[.int .i64 3, .int .i64 1]), .c (.agg #[.int .i64 3, .int .i64 1]), .c (.bool true), .c (.bool true), .c (.bool true), .c (.bool true), .c (.bool true), .c (.bool true), .c (.bool false), .c (.bool true), .c (.bool true), .c (.bool true), .c (.pointer (some ⟨B, 0, none⟩)), .c (.int .i64 4), .c (.bool true), .c (.bool true), .c (.bool true), .c (.bool true), .c (.bool true), .c (.bool true), .c (.bool true), .c (.bool true), .c (.bool true), .c (.pointer (some ⟨B, 0, none⟩)), .c (.int .i64 2), .c (.bool true), .c (.bool true), .c (.bool true), .c (.pointer (some ⟨B, 0, none⟩)), .nm [(2, 3, 1), (8, 3, 1)], .c (.agg #[.int .i64 3, .int .i64 1]), .c (.agg #[.int .u64 2, .int .i64 3, .int .i64 1]), .c (.agg #[.int .i64 3, .int .i64 1]), .c (.agg #[.int .u64 8, .int .i64 3, .int .i64 1]), .nm [(2, 3, 1), (8, 3, 1)], .c (.bool true), .c (.bool true), .c (.bool true), .c (.bool false), .c (.bool true), .c (.bool true), .c (.bool true), .c (.pointer none), .c (.agg #[.int .i64 3, .int .i64 1]), .c (.bool false), .c (.bool true), .c (.bool true), .c (.bool true), .c (.pointer none), .c (.int .i64 0), .c (.pointer none), .c (.int .i64 0), .c (.int .i64 0), .c (.pointer none), .c (.int .i64 0), .c (.int .i64 0), .c (.pointer none), .c (.int .i64 0), .c (.int .i64 0), .c (.pointer none), .c (.slice none 0 0), .c (.int .i64 0), .c (.int .i64 0), .c (.bool true), .c (.bool true), .c (.bool true), .c (.pointer (some ⟨B, 0, none⟩)), .c (.int .i64 0), .c (.bool true), .c (.bool true), .c (.bool true)]
/-- Which of the two have been put. -/
def iP (a b : Bool) : IX := if a then (if b then iE else iC) else (if b then iD else iB)
theorem isU_9 : IsU 9 := rfl
theorem isU_8 : IsU 8 := rfl
theorem isU_2 : IsU 2 := rfl
theorem isU_5 : IsU 5 := rfl
def JP (w0 : World) (B bs : Nat) (bm : Nat → Nat) (K : List (Nat × Int × Int)) (L : Nat → Bool) (W : World) : Prop := IB w0 (4 + (L 2).toNat + (L 5).toNat) B bs bm 4 (iP (L 2) (L 5)) K W
section
variable {w0 W : World} {B bs i : Nat} {bm : Nat → Nat} {K : List (Nat × Int × Int)} {L : Nat → Bool}
theorem JP.read (h : JP w0 B bs bm K L W) (h2 : i ≠ 2) (h5 : i ≠ 5) : JP w0 B bs bm K (updL L i) W := by
  unfold JP updL at *
  rw [if_neg (show ¬ 2 = i from fun e => h2 e.symm), if_neg (show ¬ 5 = i from fun e => h5 e.symm)]
  exact h
theorem JP.put8 (h : JP w0 B bs bm K L W) (hl : L 2 = false) : Calls Try.prog 78 #[.pointer (some ⟨B, 0, none⟩), .int .u64 8, .agg #[.int .i64 3, .int .i64 1]] W fun e W' => e = .returned (.bool true) ∧ JP w0 B bs bm K (updL L 2) W' := by
  unfold JP updL at *
  simp only [if_true, if_neg (show ¬ 5 = 2 by decide)]
  rw [hl] at h
  refine (imPut_ij h.1 (by cases L 5 <;> decide) isU_8 3 1).mono ?_
  rintro e W' ⟨rfl, h1, hk⟩
  cases hb : L 5
  · rw [hb] at h h1
    exact ⟨rfl, h.keep h1 hk⟩
  · rw [hb] at h h1
    exact ⟨rfl, h.keep h1 hk⟩
theorem JP.put2 (h : JP w0 B bs bm K L W) (hl : L 5 = false) : Calls Try.prog 78 #[.pointer (some ⟨B, 0, none⟩), .int .u64 2, .agg #[.int .i64 3, .int .i64 1]] W fun e W' => e = .returned (.bool true) ∧ JP w0 B bs bm K (updL L 5) W' := by
  unfold JP updL at *
  simp only [if_true, if_neg (show ¬ 2 = 5 by decide)]
  rw [hl] at h
  refine (imPut_ij h.1 (by cases L 2 <;> decide) isU_2 3 1).mono ?_
  rintro e W' ⟨rfl, h1, hk⟩
  cases hb : L 2
  · rw [hb] at h h1
    exact ⟨rfl, h.keep h1 hk⟩
  · rw [hb] at h h1
    exact ⟨rfl, h.keep h1 hk⟩
end

set_option maxRecDepth 100000 in
set_option maxHeartbeats 8000000 in
theorem im_lives_any (w : World) : Calls Try.prog 74 #[] w fun e w' => e = .returned (.bool true) ∧ Below w.heap.size w w' := by
  have hmix : Try.prog.follows .mixedOrders = true := by kernel_rfl
  go_enter Try.func74, Try.ntmps74
  go_wp2_with fail
  refine (imNew_ij 4 (by decide) (by decide) w).mono ?_
  rintro e w1 ⟨B, bs, bm, rfl, h1⟩
  have H1 : Hid (IB w 0 B bs bm 4 (imNew 4) [] w1) := Lib.hid ⟨h1.sub (fun b ⟨p, hp, _⟩ => by cases hp), fun p hp => by cases hp⟩
  clear h1
  go_wp2_with fail
  refine (imNew_not 65 (.inr (by decide)) w1).mono ?_
  rintro e w2 ⟨rfl, rfl⟩
  have H2 := Lib.hid (H1.out.box 3 1 99)
  clear H1
  obtain ⟨x0, x1⟩ := H2.out.2 (w1.heap.size, 3, 1) (by simp)
  simp only [] at x0 x1
  have H := Lib.hid (imPut_ij H2.out.1 (by decide) isU_9 3 1)
  rw [show imPut (imNew 4) 9 (3, 1) = iA by decide, show imHas (imNew 4) 9 = false by decide] at H
  generalize hb : w1.heap.size = b0 at *
  go_wp2_with fail
  refine H.out.mono ?_
  rintro e w3 ⟨rfl, h1, hk⟩
  have H3 := Lib.hid (H2.out.keep h1 hk)
  clear h1 hk H H2 x0 x1
  have H := Lib.hid (imPut_ij H3.out.1 (by decide) isU_9 0 0)
  rw [show imPut iA 9 (0, 0) = iA by decide, show imHas iA 9 = true by decide] at H
  go_wp2_with fail
  refine H.out.mono ?_
  rintro e w4 ⟨rfl, h1, hk⟩
  have H4 := Lib.hid (H3.out.keep h1 hk)
  clear h1 hk H H3
  have H := Lib.hid (imGet_ij H4.out.1 isU_9)
  rw [show imGet iA 9 = (3, 1) by decide, show imHas iA 9 = true by decide] at H
  go_wp2_with fail
  refine H.out.mono ?_
  rintro e w5 ⟨rfl, h1, hk⟩
  have H5 := Lib.hid ((H4.out.later hk).box 3 1 99)
  clear h1 hk H H4
  have hsk : shI 4 9 < 4 := shI_lt (by decide) 9
  have H := Lib.hid (imShard_ij H5.out.1 isU_9)
  have hcn : cntI 4 iA.L (shI 4 9) = 1 := by simp [cntI, iA]
  have HSz : Hid (∀ w', Drawn (w5.alloc (.cells #[.int .i64 3, .int .i64 1] 99)) w' → Calls Try.prog 87 #[.pointer (some ⟨B, 0, none⟩), .int .i64 (shI 4 9 : Int)] w' fun e w2 => e = .returned (.int .i64 1) ∧ w' = w2) := Lib.hid fun w' hd => by
    have := imSize_ij (H5.out.1.later (hd.below _)) hsk
    rw [hcn] at this
    exact this
  clear hcn
  generalize shI 4 9 = sk at *
  go_wp2_with fail
  refine H.out.mono ?_
  rintro e w6 ⟨rfl, hd⟩
  go_wp2_with fail
  refine (HSz.out w6 hd).mono ?_
  rintro e w7 ⟨rfl, rfl⟩
  have H6 := Lib.hid (H5.out.later (hd.below _))
  clear H HSz hd H5
  have H := Lib.hid (imDrop_ij H6.out.1 (by decide) isU_9)
  rw [show imDrop iA 9 = iB by decide, show imGet iA 9 = (3, 1) by decide, show imHas iA 9 = true by decide] at H
  go_wp2_with fail
  refine H.out.mono ?_
  rintro e w7 ⟨rfl, h1, hk⟩
  have H7 := Lib.hid ((H6.out.keep h1 hk).box 3 1 99)
  clear h1 hk H H6
  have H := Lib.hid (imDrop_ij H7.out.1 (by decide) isU_9)
  rw [show imDrop iB 9 = iB by decide, show imGet iB 9 = (0, 0) by decide, show imHas iB 9 = false by decide] at H
  go_wp2_with fail
  refine H.out.mono ?_
  rintro e w8 ⟨rfl, h1, hk⟩
  have H8 := Lib.hid ((H7.out.keep h1 hk).box 0 0 99)
  clear h1 hk H H7
  go_wp2_with fail
  have hst := H8.out.later (Drawn.refl.step 1 |>.below _)
  refine region_once 163 hmix rfl (VO [some (.pointer (some ⟨B, 0, none⟩)), some (.agg #[.int .i64 3, .int .i64 1]), some (.bool true), some (.pointer (some ⟨B, 0, none⟩)), some (.agg #[.int .i64 3, .int .i64 1]), some (.bool true), some (.bool true), some (.bool true)]) (JP w B bs bm [(w8.heap.size, 0, 0), (w7.heap.size, 3, 1), (w5.heap.size, 3, 1), (b0, 3, 1)]) (by kernel_rfl) hst ?steps [56, 57, 58, 59, 60, 61, 15, 16] rfl ?fin
  case steps =>
    clear hst H8
    have hbx : (b0, (3 : Int), (1 : Int)) ∈ [(w8.heap.size, 0, 0), (w7.heap.size, 3, 1), (w5.heap.size, 3, 1), (b0, 3, 1)] := by simp
    refine ⟨?_, ?_, ?_, ?_, ?_, ?_, ?_, ?_, trivial⟩
    · intro L a W hJ ho hL hc hw
      have e1 : a.eval (.tmp 1) = .pointer (some ⟨B, 0, none⟩) := ho 1 rfl
      clear hc hw hL ho
      exact once_run (v := .pointer (some ⟨B, 0, none⟩)) (wantO_none rfl) (by simp only [execOp, e1]; rfl) (fun u hu => by simpa using hu) (hJ.read (by decide) (by decide))
    · intro L a W hJ ho hL hc hw
      have e5 : a.eval (.tmp 5) = .pointer (some ⟨b0, 0, none⟩) := ho 5 rfl
      obtain ⟨k0, k1⟩ := hJ.2 (b0, 3, 1) hbx
      simp only [] at k0 k1
      clear hc hw hL ho
      exact once_run (v := .agg #[.int .i64 3, .int .i64 1]) (wantO_none rfl) (by simp only [execOp, e5]; go_simp) (fun u hu => by simpa using hu) (hJ.read (by decide) (by decide))
    · intro L a W hJ ho hL hc hw
      have e56 : a.eval (.tmp 56) = .pointer (some ⟨B, 0, none⟩) := (hw 0 rfl).2 56 rfl _ rfl
      have e57 : a.eval (.tmp 57) = .agg #[.int .i64 3, .int .i64 1] := (hw 1 rfl).2 57 rfl _ rfl
      exact once_call (wantO_none rfl) rfl (args := #[.pointer (some ⟨B, 0, none⟩), .int .u64 8, .agg #[.int .i64 3, .int .i64 1]]) (by simp [e56, e57]; rfl) (by go_simp) (JP.put8 hJ hL) (fun e W' h => ⟨_, h.1, (fun u hu => by simpa using hu), h.2⟩)
    · intro L a W hJ ho hL hc hw
      have e1 : a.eval (.tmp 1) = .pointer (some ⟨B, 0, none⟩) := ho 1 rfl
      clear hc hw hL ho
      exact once_run (v := .pointer (some ⟨B, 0, none⟩)) (wantO_none rfl) (by simp only [execOp, e1]; rfl) (fun u hu => by simpa using hu) (hJ.read (by decide) (by decide))
    · intro L a W hJ ho hL hc hw
      have e5 : a.eval (.tmp 5) = .pointer (some ⟨b0, 0, none⟩) := ho 5 rfl
      obtain ⟨k0, k1⟩ := hJ.2 (b0, 3, 1) hbx
      simp only [] at k0 k1
      clear hc hw hL ho
      exact once_run (v := .agg #[.int .i64 3, .int .i64 1]) (wantO_none rfl) (by simp only [execOp, e5]; go_simp) (fun u hu => by simpa using hu) (hJ.read (by decide) (by decide))
    · intro L a W hJ ho hL hc hw
      have e59 : a.eval (.tmp 59) = .pointer (some ⟨B, 0, none⟩) := (hw 3 rfl).2 59 rfl _ rfl
      have e60 : a.eval (.tmp 60) = .agg #[.int .i64 3, .int .i64 1] := (hw 4 rfl).2 60 rfl _ rfl
      exact once_call (wantO_none rfl) rfl (args := #[.pointer (some ⟨B, 0, none⟩), .int .u64 2, .agg #[.int .i64 3, .int .i64 1]]) (by simp [e59, e60]; rfl) (by go_simp) (JP.put2 hJ hL) (fun e W' h => ⟨_, h.1, (fun u hu => by simpa using hu), h.2⟩)
    · intro L a W hJ ho hL hc hw
      have e58 : a.eval (.tmp 58) = .bool true := (hw 2 rfl).2 58 rfl _ rfl
      clear hc hw hL ho
      exact once_run (v := .bool true) (wantO_none rfl) (by simp only [execOp, e58]; rfl) (fun u hu => by simpa using hu) (hJ.read (by decide) (by decide))
    · intro L a W hJ ho hL hc hw
      have e61 : a.eval (.tmp 61) = .bool true := (hw 5 rfl).2 61 rfl _ rfl
      clear hc hw hL ho
      exact once_run (v := .bool true) (wantO_none rfl) (by simp only [execOp, e61]; rfl) (fun u hu => by simpa using hu) (hJ.read (by decide) (by decide))
  case fin =>
    clear hst H8
    intro L gg W hJ hall hv
    have g56 : gg 56 = .pointer (some ⟨B, 0, none⟩) := hv 0 56 rfl _ rfl
    have g57 : gg 57 = .agg #[.int .i64 3, .int .i64 1] := hv 1 57 rfl _ rfl
    have g58 : gg 58 = .bool true := hv 2 58 rfl _ rfl
    have g59 : gg 59 = .pointer (some ⟨B, 0, none⟩) := hv 3 59 rfl _ rfl
    have g60 : gg 60 = .agg #[.int .i64 3, .int .i64 1] := hv 4 60 rfl _ rfl
    have g61 : gg 61 = .bool true := hv 5 61 rfl _ rfl
    have g15 : gg 15 = .bool true := hv 6 15 rfl _ rfl
    have g16 : gg 16 = .bool true := hv 7 16 rfl _ rfl
    simp only [List.foldl_cons, List.foldl_nil, List.setIfInBounds_toArray, List.set_cons_succ, List.set_cons_zero, g56, g57, g58, g59, g60, g61, g15, g16]
    clear g56 g57 g58 g59 g60 g61 g15 g16 hv
    have H9 : Hid (IB w 6 B bs bm 4 iE [(w8.heap.size, 0, 0), (w7.heap.size, 3, 1), (w5.heap.size, 3, 1), (b0, 3, 1)] W) := Lib.hid (by
      unfold JP at hJ
      rw [hall 2 (by decide), hall 5 (by decide)] at hJ
      exact hJ)
    clear hJ hall
    go_wp2_with fail
    refine (imGet_nil _ _).mono ?_
    rintro e w10 ⟨rfl, hbw⟩
    have HL := Lib.hid ((H9.out.later hbw).box 0 0 99)
    clear hbw H9
    go_wp2_with fail
    generalize w5.heap.size = n5 at *
    generalize w7.heap.size = n7 at *
    generalize w8.heap.size = n8 at *
    generalize w10.alloc (.cells #[.int .i64 0, .int .i64 0] 99) = V1 at *
    generalize w10.heap.size = n10 at *
    have HU : ∀ W, Below V1.drew.heap.size V1.drew W → IB w 6 B bs bm 4 iE [(n10, 0, 0), (n8, 0, 0), (n7, 3, 1), (n5, 3, 1), (b0, 3, 1)] W := fun W hb => HL.out.later (((Drawn.refl.step 1).below _).trans hb)
    clear HL
    have HC0 : ∀ W, Below V1.drew.heap.size V1.drew W → W.cell? ⟨b0, 0, none⟩ = some (.int .i64 3) ∧ W.cell? ⟨b0, 1, none⟩ = some (.int .i64 1) := fun W hb => (HU W hb).2 (b0, 3, 1) (by simp)
    have HC5 : ∀ W, Below V1.drew.heap.size V1.drew W → W.cell? ⟨n5, 0, none⟩ = some (.int .i64 3) ∧ W.cell? ⟨n5, 1, none⟩ = some (.int .i64 1) := fun W hb => (HU W hb).2 (n5, 3, 1) (by simp)
    have HC7 : ∀ W, Below V1.drew.heap.size V1.drew W → W.cell? ⟨n7, 0, none⟩ = some (.int .i64 3) ∧ W.cell? ⟨n7, 1, none⟩ = some (.int .i64 1) := fun W hb => (HU W hb).2 (n7, 3, 1) (by simp)
    dsimp only [List.append]
    refine region_held 163 hmix rfl (VN (livesN B)) (VN_later _) (by kernel_rfl) ?_ ?_
    rotate_left 1
    · intro a' W h
      have e0 : a'.eval (.tmp 0) = .bool true := h.at_ 96 0 rfl
      have hb := h.hb
      refine ‹∀ (a : Act) (w_1 : World), Code.wp Try.prog Code.ret _ a w_1 → _› a' W ?_
      have e1 := eval_get e0
      go_wp2
      exact bodyPost_ret (v := .bool true) (by simp [results, Try.results74, go_sem, e1]) h.dfr ⟨rfl, (HU W hb).1.bel⟩
    refine ⟨?_, ?_, ?_, ?_, ?_, ?_, ?_, ?_, ?_, ?_, ?_, ?_, ?_, ?_, ?_, ?_, ?_, ?_, ?_, ?_, ?_, ?_, ?_, ?_, ?_, ?_, ?_, ?_, ?_, ?_, ?_, ?_, ?_, ?_, ?_, ?_, ?_, ?_, ?_, ?_, ?_, ?_, ?_, ?_, ?_, ?_, ?_, ?_, ?_, ?_, ?_, ?_, ?_, ?_, ?_, ?_, ?_, ?_, ?_, ?_, ?_, ?_, ?_, ?_, ?_, ?_, ?_, ?_, ?_, ?_, ?_, ?_, ?_, ?_, ?_, ?_, ?_, ?_, ?_, ?_, ?_, ?_, ?_, ?_, ?_, ?_, ?_, ?_, ?_, ?_, ?_, ?_, ?_, ?_, ?_, ?_, ?_, trivial⟩
    · intro a W hb ho hg
      rw [if_pos (nw_none rfl)]
      have e : a.eval (.tmp 2) = .int .i64 0 := ho 2 (rfl)
      exact n_move rfl e rfl
    · intro a W hb ho hg
      rw [if_pos (nw_none rfl)]
      have e : a.eval (.tmp 67) = .int .i64 0 := hg 0 67 rfl rfl
      have f : a.eval (.const (.int .i64 0)) = .int .i64 0 := rfl
      exact n_run (v := .bool true) (by simp only [execOp, e]; go_simp) rfl
    · intro a W hb ho hg
      rw [if_pos (nw_none rfl)]
      have e : a.eval (.tmp 68) = .bool true := hg 1 68 rfl rfl
      exact n_move rfl e rfl
    · intro a W hb ho hg
      have eg : a.eval (.tmp 69) = .bool true := hg 2 69 rfl rfl
      rw [if_pos (nw_some rfl rfl eg)]
      have e : a.eval (.tmp 4) = .int .i64 6 := ho 4 (rfl)
      exact n_move rfl e rfl
    · intro a W hb ho hg
      have eg : a.eval (.tmp 69) = .bool true := hg 2 69 rfl rfl
      rw [if_pos (nw_some rfl rfl eg)]
      have e : a.eval (.tmp 70) = .int .i64 6 := hg 3 70 rfl rfl
      have f : a.eval (.const (.int .i64 6)) = .int .i64 6 := rfl
      exact n_run (v := .bool true) (by simp only [execOp, e]; go_simp) rfl
    · intro a W hb ho hg
      rw [if_pos (nw_none rfl)]
      have e : a.eval (.tmp 69) = .bool true := hg 2 69 rfl rfl
      have f : a.eval (.tmp 71) = .bool true := hg 4 71 rfl rfl
      exact n_pick rfl e (fun _ => f) (fun h => by cases h) rfl
    · intro a W hb ho hg
      rw [if_pos (nw_none rfl)]
      have e : a.eval (.tmp 72) = .bool true := hg 5 72 rfl rfl
      exact n_move rfl e rfl
    · intro a W hb ho hg
      have eg : a.eval (.tmp 73) = .bool true := hg 6 73 rfl rfl
      rw [if_pos (nw_some rfl rfl eg)]
      have e : a.eval (.tmp 6) = .bool true := ho 6 (rfl)
      exact n_move rfl e rfl
    · intro a W hb ho hg
      rw [if_pos (nw_none rfl)]
      have e : a.eval (.tmp 73) = .bool true := hg 6 73 rfl rfl
      have f : a.eval (.tmp 74) = .bool true := hg 7 74 rfl rfl
      exact n_pick rfl e (fun _ => f) (fun h => by cases h) rfl
    · intro a W hb ho hg
      rw [if_pos (nw_none rfl)]
      have e : a.eval (.tmp 75) = .bool true := hg 8 75 rfl rfl
      exact n_move rfl e rfl
    · intro a W hb ho hg
      have eg : a.eval (.tmp 76) = .bool true := hg 9 76 rfl rfl
      rw [if_pos (nw_some rfl rfl eg)]
      have e : a.eval (.tmp 7) = .bool false := ho 7 (rfl)
      exact n_move rfl e rfl
    · intro a W hb ho hg
      have eg : a.eval (.tmp 76) = .bool true := hg 9 76 rfl rfl
      rw [if_pos (nw_some rfl rfl eg)]
      have e : a.eval (.tmp 77) = .bool false := hg 10 77 rfl rfl
      exact n_not rfl e rfl
    · intro a W hb ho hg
      rw [if_pos (nw_none rfl)]
      have e : a.eval (.tmp 76) = .bool true := hg 9 76 rfl rfl
      have f : a.eval (.tmp 78) = .bool true := hg 11 78 rfl rfl
      exact n_pick rfl e (fun _ => f) (fun h => by cases h) rfl
    · intro a W hb ho hg
      rw [if_pos (nw_none rfl)]
      have e : a.eval (.tmp 79) = .bool true := hg 12 79 rfl rfl
      exact n_move rfl e rfl
    · intro a W hb ho hg
      have eg : a.eval (.tmp 80) = .bool true := hg 13 80 rfl rfl
      rw [if_pos (nw_some rfl rfl eg)]
      have e : a.eval (.tmp 8) = .pointer (some ⟨n5, 0, none⟩) := ho 8 (rfl)
      exact n_run (nr_load rfl e (HC5 W hb)) rfl
    · intro a W hb ho hg
      have eg : a.eval (.tmp 80) = .bool true := hg 13 80 rfl rfl
      rw [if_pos (nw_some rfl rfl eg)]
      have e : a.eval (.tmp 5) = .pointer (some ⟨b0, 0, none⟩) := ho 5 (rfl)
      exact n_run (nr_load rfl e (HC0 W hb)) rfl
    · intro a W hb ho hg
      have eg : a.eval (.tmp 80) = .bool true := hg 13 80 rfl rfl
      rw [if_pos (nw_some rfl rfl eg)]
      have e : a.eval (.tmp 81) = .agg #[.int .i64 3, .int .i64 1] := hg 14 81 rfl rfl
      have f : a.eval (.tmp 82) = .agg #[.int .i64 3, .int .i64 1] := hg 15 82 rfl rfl
      exact n_run (nr_eqR rfl e f) rfl
    · intro a W hb ho hg
      rw [if_pos (nw_none rfl)]
      have e : a.eval (.tmp 80) = .bool true := hg 13 80 rfl rfl
      have f : a.eval (.tmp 83) = .bool true := hg 16 83 rfl rfl
      exact n_pick rfl e (fun _ => f) (fun h => by cases h) rfl
    · intro a W hb ho hg
      rw [if_pos (nw_none rfl)]
      have e : a.eval (.tmp 84) = .bool true := hg 17 84 rfl rfl
      exact n_move rfl e rfl
    · intro a W hb ho hg
      have eg : a.eval (.tmp 85) = .bool true := hg 18 85 rfl rfl
      rw [if_pos (nw_some rfl rfl eg)]
      have e : a.eval (.tmp 9) = .bool true := ho 9 (rfl)
      exact n_move rfl e rfl
    · intro a W hb ho hg
      rw [if_pos (nw_none rfl)]
      have e : a.eval (.tmp 85) = .bool true := hg 18 85 rfl rfl
      have f : a.eval (.tmp 86) = .bool true := hg 19 86 rfl rfl
      exact n_pick rfl e (fun _ => f) (fun h => by cases h) rfl
    · intro a W hb ho hg
      rw [if_pos (nw_none rfl)]
      have e : a.eval (.tmp 87) = .bool true := hg 20 87 rfl rfl
      exact n_move rfl e rfl
    · intro a W hb ho hg
      have eg : a.eval (.tmp 88) = .bool true := hg 21 88 rfl rfl
      rw [if_pos (nw_some rfl rfl eg)]
      have e : a.eval (.tmp 10) = .int .i64 1 := ho 10 (rfl)
      exact n_move rfl e rfl
    · intro a W hb ho hg
      have eg : a.eval (.tmp 88) = .bool true := hg 21 88 rfl rfl
      rw [if_pos (nw_some rfl rfl eg)]
      have e : a.eval (.tmp 89) = .int .i64 1 := hg 22 89 rfl rfl
      have f : a.eval (.const (.int .i64 1)) = .int .i64 1 := rfl
      exact n_run (nr_eqI rfl e f) rfl
    · intro a W hb ho hg
      rw [if_pos (nw_none rfl)]
      have e : a.eval (.tmp 88) = .bool true := hg 21 88 rfl rfl
      have f : a.eval (.tmp 90) = .bool true := hg 23 90 rfl rfl
      exact n_pick rfl e (fun _ => f) (fun h => by cases h) rfl
    · intro a W hb ho hg
      rw [if_pos (nw_none rfl)]
      have e : a.eval (.tmp 91) = .bool true := hg 24 91 rfl rfl
      exact n_move rfl e rfl
    · intro a W hb ho hg
      have eg : a.eval (.tmp 92) = .bool true := hg 25 92 rfl rfl
      rw [if_pos (nw_some rfl rfl eg)]
      have e : a.eval (.tmp 11) = .pointer (some ⟨n7, 0, none⟩) := ho 11 (rfl)
      exact n_run (nr_load rfl e (HC7 W hb)) rfl
    · intro a W hb ho hg
      have eg : a.eval (.tmp 92) = .bool true := hg 25 92 rfl rfl
      rw [if_pos (nw_some rfl rfl eg)]
      have e : a.eval (.tmp 5) = .pointer (some ⟨b0, 0, none⟩) := ho 5 (rfl)
      exact n_run (nr_load rfl e (HC0 W hb)) rfl
    · intro a W hb ho hg
      have eg : a.eval (.tmp 92) = .bool true := hg 25 92 rfl rfl
      rw [if_pos (nw_some rfl rfl eg)]
      have e : a.eval (.tmp 93) = .agg #[.int .i64 3, .int .i64 1] := hg 26 93 rfl rfl
      have f : a.eval (.tmp 94) = .agg #[.int .i64 3, .int .i64 1] := hg 27 94 rfl rfl
      exact n_run (nr_eqR rfl e f) rfl
    · intro a W hb ho hg
      rw [if_pos (nw_none rfl)]
      have e : a.eval (.tmp 92) = .bool true := hg 25 92 rfl rfl
      have f : a.eval (.tmp 95) = .bool true := hg 28 95 rfl rfl
      exact n_pick rfl e (fun _ => f) (fun h => by cases h) rfl
    · intro a W hb ho hg
      rw [if_pos (nw_none rfl)]
      have e : a.eval (.tmp 96) = .bool true := hg 29 96 rfl rfl
      exact n_move rfl e rfl
    · intro a W hb ho hg
      have eg : a.eval (.tmp 97) = .bool true := hg 30 97 rfl rfl
      rw [if_pos (nw_some rfl rfl eg)]
      have e : a.eval (.tmp 12) = .bool true := ho 12 (rfl)
      exact n_move rfl e rfl
    · intro a W hb ho hg
      rw [if_pos (nw_none rfl)]
      have e : a.eval (.tmp 97) = .bool true := hg 30 97 rfl rfl
      have f : a.eval (.tmp 98) = .bool true := hg 31 98 rfl rfl
      exact n_pick rfl e (fun _ => f) (fun h => by cases h) rfl
    · intro a W hb ho hg
      rw [if_pos (nw_none rfl)]
      have e : a.eval (.tmp 99) = .bool true := hg 32 99 rfl rfl
      exact n_move rfl e rfl
    · intro a W hb ho hg
      have eg : a.eval (.tmp 100) = .bool true := hg 33 100 rfl rfl
      rw [if_pos (nw_some rfl rfl eg)]
      have e : a.eval (.tmp 14) = .bool false := ho 14 (rfl)
      exact n_move rfl e rfl
    · intro a W hb ho hg
      have eg : a.eval (.tmp 100) = .bool true := hg 33 100 rfl rfl
      rw [if_pos (nw_some rfl rfl eg)]
      have e : a.eval (.tmp 101) = .bool false := hg 34 101 rfl rfl
      exact n_not rfl e rfl
    · intro a W hb ho hg
      rw [if_pos (nw_none rfl)]
      have e : a.eval (.tmp 100) = .bool true := hg 33 100 rfl rfl
      have f : a.eval (.tmp 102) = .bool true := hg 35 102 rfl rfl
      exact n_pick rfl e (fun _ => f) (fun h => by cases h) rfl
    · intro a W hb ho hg
      rw [if_pos (nw_none rfl)]
      have e : a.eval (.tmp 103) = .bool true := hg 36 103 rfl rfl
      exact n_move rfl e rfl
    · intro a W hb ho hg
      have eg : a.eval (.tmp 104) = .bool true := hg 37 104 rfl rfl
      rw [if_pos (nw_some rfl rfl eg)]
      have e : a.eval (.tmp 1) = .pointer (some ⟨B, 0, none⟩) := ho 1 (rfl)
      exact n_move rfl e rfl
    · intro a W hb ho hg
      have eg : a.eval (.tmp 104) = .bool true := hg 37 104 rfl rfl
      rw [if_pos (nw_some rfl rfl eg)]
      have e0 : a.eval (.tmp 105) = .pointer (some ⟨B, 0, none⟩) := hg 38 105 rfl rfl
      exact n_call (f := 84) rfl (by simp only [List.map_toArray, List.map_cons, List.map_nil, e0] <;> rfl) (by go_simp) (imVer_ij (HU W hb).1) (fun e W' h => ⟨_, h.1, by rw [← h.2]; exact Below.refl _ _, rfl⟩)
    · intro a W hb ho hg
      have eg : a.eval (.tmp 104) = .bool true := hg 37 104 rfl rfl
      rw [if_pos (nw_some rfl rfl eg)]
      have e : a.eval (.tmp 106) = .int .i64 4 := hg 39 106 rfl rfl
      have f : a.eval (.const (.int .i64 4)) = .int .i64 4 := rfl
      exact n_run (nr_eqI rfl e f) rfl
    · intro a W hb ho hg
      rw [if_pos (nw_none rfl)]
      have e : a.eval (.tmp 104) = .bool true := hg 37 104 rfl rfl
      have f : a.eval (.tmp 107) = .bool true := hg 40 107 rfl rfl
      exact n_pick rfl e (fun _ => f) (fun h => by cases h) rfl
    · intro a W hb ho hg
      rw [if_pos (nw_none rfl)]
      have e : a.eval (.tmp 108) = .bool true := hg 41 108 rfl rfl
      exact n_move rfl e rfl
    · intro a W hb ho hg
      have eg : a.eval (.tmp 109) = .bool true := hg 42 109 rfl rfl
      rw [if_pos (nw_some rfl rfl eg)]
      have e : a.eval (.tmp 15) = .bool true := ho 15 (rfl)
      exact n_move rfl e rfl
    · intro a W hb ho hg
      rw [if_pos (nw_none rfl)]
      have e : a.eval (.tmp 109) = .bool true := hg 42 109 rfl rfl
      have f : a.eval (.tmp 110) = .bool true := hg 43 110 rfl rfl
      exact n_pick rfl e (fun _ => f) (fun h => by cases h) rfl
    · intro a W hb ho hg
      rw [if_pos (nw_none rfl)]
      have e : a.eval (.tmp 111) = .bool true := hg 44 111 rfl rfl
      exact n_move rfl e rfl
    · intro a W hb ho hg
      have eg : a.eval (.tmp 112) = .bool true := hg 45 112 rfl rfl
      rw [if_pos (nw_some rfl rfl eg)]
      have e : a.eval (.tmp 16) = .bool true := ho 16 (rfl)
      exact n_move rfl e rfl
    · intro a W hb ho hg
      rw [if_pos (nw_none rfl)]
      have e : a.eval (.tmp 112) = .bool true := hg 45 112 rfl rfl
      have f : a.eval (.tmp 113) = .bool true := hg 46 113 rfl rfl
      exact n_pick rfl e (fun _ => f) (fun h => by cases h) rfl
    · intro a W hb ho hg
      rw [if_pos (nw_none rfl)]
      have e : a.eval (.tmp 114) = .bool true := hg 47 114 rfl rfl
      exact n_move rfl e rfl
    · intro a W hb ho hg
      have eg : a.eval (.tmp 115) = .bool true := hg 48 115 rfl rfl
      rw [if_pos (nw_some rfl rfl eg)]
      have e : a.eval (.tmp 1) = .pointer (some ⟨B, 0, none⟩) := ho 1 (rfl)
      exact n_move rfl e rfl
    · intro a W hb ho hg
      have eg : a.eval (.tmp 115) = .bool true := hg 48 115 rfl rfl
      rw [if_pos (nw_some rfl rfl eg)]
      have e0 : a.eval (.tmp 116) = .pointer (some ⟨B, 0, none⟩) := hg 49 116 rfl rfl
      exact n_call (f := 83) rfl (by simp only [List.map_toArray, List.map_cons, List.map_nil, e0] <;> rfl) (by go_simp) (imLen_ij (HU W hb).1 (by decide)) (fun e W' h => ⟨_, h.1, by rw [← h.2]; exact Below.refl _ _, rfl⟩)
    · intro a W hb ho hg
      have eg : a.eval (.tmp 115) = .bool true := hg 48 115 rfl rfl
      rw [if_pos (nw_some rfl rfl eg)]
      have e : a.eval (.tmp 117) = .int .i64 2 := hg 50 117 rfl rfl
      have f : a.eval (.const (.int .i64 2)) = .int .i64 2 := rfl
      exact n_run (nr_eqI rfl e f) rfl
    · intro a W hb ho hg
      rw [if_pos (nw_none rfl)]
      have e : a.eval (.tmp 115) = .bool true := hg 48 115 rfl rfl
      have f : a.eval (.tmp 118) = .bool true := hg 51 118 rfl rfl
      exact n_pick rfl e (fun _ => f) (fun h => by cases h) rfl
    · intro a W hb ho hg
      rw [if_pos (nw_none rfl)]
      have e : a.eval (.tmp 119) = .bool true := hg 52 119 rfl rfl
      exact n_move rfl e rfl
    · intro a W hb ho hg
      have eg : a.eval (.tmp 120) = .bool true := hg 53 120 rfl rfl
      rw [if_pos (nw_some rfl rfl eg)]
      have e : a.eval (.tmp 1) = .pointer (some ⟨B, 0, none⟩) := ho 1 (rfl)
      exact n_move rfl e rfl
    · intro a W hb ho hg
      have eg : a.eval (.tmp 120) = .bool true := hg 53 120 rfl rfl
      rw [if_pos (nw_some rfl rfl eg)]
      have e0 : a.eval (.tmp 121) = .pointer (some ⟨B, 0, none⟩) := hg 54 121 rfl rfl
      exact n_call (f := 90) rfl (by simp only [List.map_toArray, List.map_cons, List.map_nil, e0] <;> rfl) (by go_simp) (imList_ij (HU W hb).1 (by decide)) (fun e W' ⟨A, c, h1, h2, h3⟩ => ⟨_, h1, h3, ⟨A, c, rfl, h2.lo⟩⟩)
    · intro a W hb ho hg
      have eg : a.eval (.tmp 120) = .bool true := hg 53 120 rfl rfl
      rw [if_pos (nw_some rfl rfl eg)]
      have e : a.eval (.tmp 5) = .pointer (some ⟨b0, 0, none⟩) := ho 5 (rfl)
      exact n_run (nr_load rfl e (HC0 W hb)) rfl
    · intro a W hb ho hg
      have eg : a.eval (.tmp 120) = .bool true := hg 53 120 rfl rfl
      rw [if_pos (nw_some rfl rfl eg)]
      have e1 : a.eval (.tmp 123) = .agg #[.int .i64 3, .int .i64 1] := hg 56 123 rfl rfl
      exact n_run (v := .agg #[.int .u64 2, .int .i64 3, .int .i64 1]) (by simp only [execOp, List.map_toArray, List.map_cons, List.map_nil, e1]; go_simp) rfl
    · intro a W hb ho hg
      have eg : a.eval (.tmp 120) = .bool true := hg 53 120 rfl rfl
      rw [if_pos (nw_some rfl rfl eg)]
      have e : a.eval (.tmp 5) = .pointer (some ⟨b0, 0, none⟩) := ho 5 (rfl)
      exact n_run (nr_load rfl e (HC0 W hb)) rfl
    · intro a W hb ho hg
      have eg : a.eval (.tmp 120) = .bool true := hg 53 120 rfl rfl
      rw [if_pos (nw_some rfl rfl eg)]
      have e1 : a.eval (.tmp 125) = .agg #[.int .i64 3, .int .i64 1] := hg 58 125 rfl rfl
      exact n_run (v := .agg #[.int .u64 8, .int .i64 3, .int .i64 1]) (by simp only [execOp, List.map_toArray, List.map_cons, List.map_nil, e1]; go_simp) rfl
    · intro a W hb ho hg
      have eg : a.eval (.tmp 120) = .bool true := hg 53 120 rfl rfl
      rw [if_pos (nw_some rfl rfl eg)]
      have e0 : a.eval (.tmp 124) = .agg #[.int .u64 2, .int .i64 3, .int .i64 1] := hg 57 124 rfl rfl
      have e1 : a.eval (.tmp 126) = .agg #[.int .u64 8, .int .i64 3, .int .i64 1] := hg 59 126 rfl rfl
      exact n_build2 (x := (2, 3, 1)) (y := (8, 3, 1)) rfl e0 e1 ⟨_, _, rfl, rdN_build2 _ _ _⟩
    · intro a W hb ho hg
      have eg : a.eval (.tmp 120) = .bool true := hg 53 120 rfl rfl
      rw [if_pos (nw_some rfl rfl eg)]
      obtain ⟨Ae0, ce0, e0, re0⟩ := (show ∃ A k, a.eval (.tmp 122) = .slice A [(2, 3, 1), (8, 3, 1)].length k ∧ RdN W 0 A [(2, 3, 1), (8, 3, 1)] from hg 55 122 rfl rfl)
      obtain ⟨Ae1, ce1, e1, re1⟩ := (show ∃ A k, a.eval (.tmp 127) = .slice A [(2, 3, 1), (8, 3, 1)].length k ∧ RdN W 0 A [(2, 3, 1), (8, 3, 1)] from hg 60 127 rfl rfl)
      exact n_call (f := 89) rfl (by simp only [List.map_toArray, List.map_cons, List.map_nil, e0, e1] <;> rfl) (by go_simp) (SameN_refl Ae0 Ae1 [(2, 3, 1), (8, 3, 1)] ce0 ce1 0 0 W re0 re1 (by decide)) (fun e W' h => ⟨_, h.1, h.2.below _, rfl⟩)
    · intro a W hb ho hg
      rw [if_pos (nw_none rfl)]
      have e : a.eval (.tmp 120) = .bool true := hg 53 120 rfl rfl
      have f : a.eval (.tmp 128) = .bool true := hg 61 128 rfl rfl
      exact n_pick rfl e (fun _ => f) (fun h => by cases h) rfl
    · intro a W hb ho hg
      rw [if_pos (nw_none rfl)]
      have e : a.eval (.tmp 129) = .bool true := hg 62 129 rfl rfl
      exact n_move rfl e rfl
    · intro a W hb ho hg
      have eg : a.eval (.tmp 130) = .bool true := hg 63 130 rfl rfl
      rw [if_pos (nw_some rfl rfl eg)]
      have e : a.eval (.tmp 19) = .bool false := ho 19 (rfl)
      exact n_move rfl e rfl
    · intro a W hb ho hg
      have eg : a.eval (.tmp 130) = .bool true := hg 63 130 rfl rfl
      rw [if_pos (nw_some rfl rfl eg)]
      have e : a.eval (.tmp 131) = .bool false := hg 64 131 rfl rfl
      exact n_not rfl e rfl
    · intro a W hb ho hg
      rw [if_pos (nw_none rfl)]
      have e : a.eval (.tmp 130) = .bool true := hg 63 130 rfl rfl
      have f : a.eval (.tmp 132) = .bool true := hg 65 132 rfl rfl
      exact n_pick rfl e (fun _ => f) (fun h => by cases h) rfl
    · intro a W hb ho hg
      rw [if_pos (nw_none rfl)]
      have e : a.eval (.tmp 133) = .bool true := hg 66 133 rfl rfl
      exact n_move rfl e rfl
    · intro a W hb ho hg
      have eg : a.eval (.tmp 134) = .bool true := hg 67 134 rfl rfl
      rw [if_pos (nw_some rfl rfl eg)]
      have e : a.eval (.tmp 17) = .pointer none := ho 17 (rfl)
      exact n_move rfl e rfl
    · intro a W hb ho hg
      have eg : a.eval (.tmp 134) = .bool true := hg 67 134 rfl rfl
      rw [if_pos (nw_some rfl rfl eg)]
      have e : a.eval (.tmp 5) = .pointer (some ⟨b0, 0, none⟩) := ho 5 (rfl)
      exact n_run (nr_load rfl e (HC0 W hb)) rfl
    · intro a W hb ho hg
      have eg : a.eval (.tmp 134) = .bool true := hg 67 134 rfl rfl
      rw [if_pos (nw_some rfl rfl eg)]
      have e0 : a.eval (.tmp 135) = .pointer none := hg 68 135 rfl rfl
      have e1 : a.eval (.const (.int .u64 1)) = .int .u64 1 := rfl
      have e2 : a.eval (.tmp 136) = .agg #[.int .i64 3, .int .i64 1] := hg 69 136 rfl rfl
      exact n_call (f := 78) rfl (by simp only [List.map_toArray, List.map_cons, List.map_nil, e0, e1, e2] <;> rfl) (by go_simp) (imPut_nil 1 3 1 W) (fun e W' h => ⟨_, h.1, h.2, rfl⟩)
    · intro a W hb ho hg
      have eg : a.eval (.tmp 134) = .bool true := hg 67 134 rfl rfl
      rw [if_pos (nw_some rfl rfl eg)]
      have e : a.eval (.tmp 137) = .bool false := hg 70 137 rfl rfl
      exact n_not rfl e rfl
    · intro a W hb ho hg
      rw [if_pos (nw_none rfl)]
      have e : a.eval (.tmp 134) = .bool true := hg 67 134 rfl rfl
      have f : a.eval (.tmp 138) = .bool true := hg 71 138 rfl rfl
      exact n_pick rfl e (fun _ => f) (fun h => by cases h) rfl
    · intro a W hb ho hg
      rw [if_pos (nw_none rfl)]
      have e : a.eval (.tmp 139) = .bool true := hg 72 139 rfl rfl
      exact n_move rfl e rfl
    · intro a W hb ho hg
      have eg : a.eval (.tmp 140) = .bool true := hg 73 140 rfl rfl
      rw [if_pos (nw_some rfl rfl eg)]
      have e : a.eval (.tmp 17) = .pointer none := ho 17 (rfl)
      exact n_move rfl e rfl
    · intro a W hb ho hg
      have eg : a.eval (.tmp 140) = .bool true := hg 73 140 rfl rfl
      rw [if_pos (nw_some rfl rfl eg)]
      have e0 : a.eval (.tmp 141) = .pointer none := hg 74 141 rfl rfl
      exact n_call (f := 83) rfl (by simp only [List.map_toArray, List.map_cons, List.map_nil, e0] <;> rfl) (by go_simp) (imLen_nil W) (fun e W' h => ⟨_, h.1, by rw [← h.2]; exact Below.refl _ _, rfl⟩)
    · intro a W hb ho hg
      have eg : a.eval (.tmp 140) = .bool true := hg 73 140 rfl rfl
      rw [if_pos (nw_some rfl rfl eg)]
      have e : a.eval (.tmp 17) = .pointer none := ho 17 (rfl)
      exact n_move rfl e rfl
    · intro a W hb ho hg
      have eg : a.eval (.tmp 140) = .bool true := hg 73 140 rfl rfl
      rw [if_pos (nw_some rfl rfl eg)]
      have e0 : a.eval (.tmp 143) = .pointer none := hg 76 143 rfl rfl
      exact n_call (f := 84) rfl (by simp only [List.map_toArray, List.map_cons, List.map_nil, e0] <;> rfl) (by go_simp) (imVer_nil W) (fun e W' h => ⟨_, h.1, by rw [← h.2]; exact Below.refl _ _, rfl⟩)
    · intro a W hb ho hg
      have eg : a.eval (.tmp 140) = .bool true := hg 73 140 rfl rfl
      rw [if_pos (nw_some rfl rfl eg)]
      have e : a.eval (.tmp 142) = .int .i64 0 := hg 75 142 rfl rfl
      have f : a.eval (.tmp 144) = .int .i64 0 := hg 77 144 rfl rfl
      exact n_run (nr_add0 rfl e f) rfl
    · intro a W hb ho hg
      have eg : a.eval (.tmp 140) = .bool true := hg 73 140 rfl rfl
      rw [if_pos (nw_some rfl rfl eg)]
      have e : a.eval (.tmp 17) = .pointer none := ho 17 (rfl)
      exact n_move rfl e rfl
    · intro a W hb ho hg
      have eg : a.eval (.tmp 140) = .bool true := hg 73 140 rfl rfl
      rw [if_pos (nw_some rfl rfl eg)]
      have e0 : a.eval (.tmp 146) = .pointer none := hg 79 146 rfl rfl
      have e1 : a.eval (.const (.int .i64 0)) = .int .i64 0 := rfl
      exact n_call (f := 87) rfl (by simp only [List.map_toArray, List.map_cons, List.map_nil, e0, e1] <;> rfl) (by go_simp) (imSize_nil 0 W) (fun e W' h => ⟨_, h.1, by rw [← h.2]; exact Below.refl _ _, rfl⟩)
    · intro a W hb ho hg
      have eg : a.eval (.tmp 140) = .bool true := hg 73 140 rfl rfl
      rw [if_pos (nw_some rfl rfl eg)]
      have e : a.eval (.tmp 145) = .int .i64 0 := hg 78 145 rfl rfl
      have f : a.eval (.tmp 147) = .int .i64 0 := hg 80 147 rfl rfl
      exact n_run (nr_add0 rfl e f) rfl
    · intro a W hb ho hg
      have eg : a.eval (.tmp 140) = .bool true := hg 73 140 rfl rfl
      rw [if_pos (nw_some rfl rfl eg)]
      have e : a.eval (.tmp 17) = .pointer none := ho 17 (rfl)
      exact n_move rfl e rfl
    · intro a W hb ho hg
      have eg : a.eval (.tmp 140) = .bool true := hg 73 140 rfl rfl
      rw [if_pos (nw_some rfl rfl eg)]
      have e0 : a.eval (.tmp 149) = .pointer none := hg 82 149 rfl rfl
      have e1 : a.eval (.const (.int .u64 5)) = .int .u64 5 := rfl
      exact n_call (f := 85) rfl (by simp only [List.map_toArray, List.map_cons, List.map_nil, e0, e1] <;> rfl) (by go_simp) (imShard_nil 5 W) (fun e W' h => ⟨_, h.1, by rw [← h.2]; exact Below.refl _ _, rfl⟩)
    · intro a W hb ho hg
      have eg : a.eval (.tmp 140) = .bool true := hg 73 140 rfl rfl
      rw [if_pos (nw_some rfl rfl eg)]
      have e : a.eval (.tmp 148) = .int .i64 0 := hg 81 148 rfl rfl
      have f : a.eval (.tmp 150) = .int .i64 0 := hg 83 150 rfl rfl
      exact n_run (nr_add0 rfl e f) rfl
    · intro a W hb ho hg
      have eg : a.eval (.tmp 140) = .bool true := hg 73 140 rfl rfl
      rw [if_pos (nw_some rfl rfl eg)]
      have e : a.eval (.tmp 17) = .pointer none := ho 17 (rfl)
      exact n_move rfl e rfl
    · intro a W hb ho hg
      have eg : a.eval (.tmp 140) = .bool true := hg 73 140 rfl rfl
      rw [if_pos (nw_some rfl rfl eg)]
      have e0 : a.eval (.tmp 152) = .pointer none := hg 85 152 rfl rfl
      exact n_call (f := 90) rfl (by simp only [List.map_toArray, List.map_cons, List.map_nil, e0] <;> rfl) (by go_simp) (imList_nil W) (fun e W' h => ⟨_, h.1, h.2, rfl⟩)
    · intro a W hb ho hg
      have eg : a.eval (.tmp 140) = .bool true := hg 73 140 rfl rfl
      rw [if_pos (nw_some rfl rfl eg)]
      have e : a.eval (.tmp 153) = .slice none 0 0 := hg 86 153 rfl rfl
      exact n_run (nr_len rfl e) rfl
    · intro a W hb ho hg
      have eg : a.eval (.tmp 140) = .bool true := hg 73 140 rfl rfl
      rw [if_pos (nw_some rfl rfl eg)]
      have e : a.eval (.tmp 151) = .int .i64 0 := hg 84 151 rfl rfl
      have f : a.eval (.tmp 154) = .int .i64 0 := hg 87 154 rfl rfl
      exact n_run (nr_add0 rfl e f) rfl
    · intro a W hb ho hg
      have eg : a.eval (.tmp 140) = .bool true := hg 73 140 rfl rfl
      rw [if_pos (nw_some rfl rfl eg)]
      have e : a.eval (.tmp 155) = .int .i64 0 := hg 88 155 rfl rfl
      have f : a.eval (.const (.int .i64 0)) = .int .i64 0 := rfl
      exact n_run (nr_eqI rfl e f) rfl
    · intro a W hb ho hg
      rw [if_pos (nw_none rfl)]
      have e : a.eval (.tmp 140) = .bool true := hg 73 140 rfl rfl
      have f : a.eval (.tmp 156) = .bool true := hg 89 156 rfl rfl
      exact n_pick rfl e (fun _ => f) (fun h => by cases h) rfl
    · intro a W hb ho hg
      rw [if_pos (nw_none rfl)]
      have e : a.eval (.tmp 157) = .bool true := hg 90 157 rfl rfl
      exact n_move rfl e rfl
    · intro a W hb ho hg
      have eg : a.eval (.tmp 158) = .bool true := hg 91 158 rfl rfl
      rw [if_pos (nw_some rfl rfl eg)]
      have e : a.eval (.tmp 1) = .pointer (some ⟨B, 0, none⟩) := ho 1 (rfl)
      exact n_move rfl e rfl
    · intro a W hb ho hg
      have eg : a.eval (.tmp 158) = .bool true := hg 91 158 rfl rfl
      rw [if_pos (nw_some rfl rfl eg)]
      have e0 : a.eval (.tmp 159) = .pointer (some ⟨B, 0, none⟩) := hg 92 159 rfl rfl
      have e1 : a.eval (.const (.int .i64 4)) = .int .i64 4 := rfl
      exact n_call (f := 87) rfl (by simp only [List.map_toArray, List.map_cons, List.map_nil, e0, e1] <;> rfl) (by go_simp) (imSize_ij_out (HU W hb).1 (.inr (by decide))) (fun e W' h => ⟨_, h.1, by rw [← h.2]; exact Below.refl _ _, rfl⟩)
    · intro a W hb ho hg
      have eg : a.eval (.tmp 158) = .bool true := hg 91 158 rfl rfl
      rw [if_pos (nw_some rfl rfl eg)]
      have e : a.eval (.tmp 160) = .int .i64 0 := hg 93 160 rfl rfl
      have f : a.eval (.const (.int .i64 0)) = .int .i64 0 := rfl
      exact n_run (nr_eqI rfl e f) rfl
    · intro a W hb ho hg
      rw [if_pos (nw_none rfl)]
      have e : a.eval (.tmp 158) = .bool true := hg 91 158 rfl rfl
      have f : a.eval (.tmp 161) = .bool true := hg 94 161 rfl rfl
      exact n_pick rfl e (fun _ => f) (fun h => by cases h) rfl
    · intro a W hb ho hg
      rw [if_pos (nw_none rfl)]
      have e : a.eval (.tmp 162) = .bool true := hg 95 162 rfl rfl
      exact n_assign rfl e rfl
end Go.Proofs.Ytoaikdnooafjmaa
