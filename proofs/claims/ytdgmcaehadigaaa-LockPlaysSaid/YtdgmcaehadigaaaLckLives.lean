/- The law's own question of the answers that the document gives (lives), for package lock: the answer is 'true'. -/
import Derived.Test.YtdgmcaehadigaaaLckL1
import Derived.Test.YtdgmcaehadigaaaSameInts
namespace Go.Proofs.Ytdgmcaehadigaaa
open Go.RowKit

def liveA : LX := ⟨[(1, 0)], [], true⟩
def liveB : LX := ⟨[(1, 0), (2, 1)], [], true⟩
def liveC : LX := ⟨[(1, 0), (2, 1)], [(2, 0)], true⟩
def liveD : LX := ⟨[(1, 0), (2, 1)], [(2, 0), (1, 1)], false⟩
def liveE : LX := ⟨[(1, 0)], [(2, 0)], false⟩
def liveF : LX := ⟨[(1, 0), (2, 0)], [], false⟩
theorem heldF : heldL liveF.hs 0 = [1, 2] := by
  have hf : LFit liveF := ⟨fun n w h => by
    simp only [liveF, List.mem_cons, Prod.mk.injEq, List.not_mem_nil, or_false] at h
    rcases h with ⟨rfl, rfl⟩ | ⟨rfl, rfl⟩ <;> rfl, fun n w h => by
    simp only [liveF, List.mem_cons, Prod.mk.injEq, List.not_mem_nil, or_false] at h
    rcases h with ⟨rfl, rfl⟩ | ⟨rfl, rfl⟩ <;> decide, fun n w h => (by cases h), fun h => (by cases h)⟩
  refine rising_eq (heldL_sorted _ _) (by decide) fun k => ?_
  rw [heldL_mem hf]
  constructor
  · intro h
    have := hold_some h
    simp only [liveF, List.mem_cons, Prod.mk.injEq, List.not_mem_nil, or_false] at this
    rcases this with ⟨rfl, _⟩ | ⟨rfl, _⟩ <;> simp
  · intro h
    simp only [List.mem_cons, List.not_mem_nil, or_false] at h
    rcases h with rfl | rfl <;> rfl
theorem held_nil (v : Int) : heldL [] v = [] := List.eq_nil_iff_forall_not_mem.2 fun k hk => by
  have := (heldL_mem LFit.nil).1 hk
  cases this
theorem Held_nil (v : Int) (w : World) : Calls Try.prog 34 #[.pointer none, .int .i64 v] w fun e w' => ∃ A c, e = .returned (.slice A 0 c) ∧ Below w.heap.size w w' :=
  (Held_any (.inl ⟨rfl, rfl⟩) LFit.nil v).mono fun e w' ho => by
    obtain ⟨A, c, he, _, hb⟩ := ho
    simp only [held_nil] at he
    exact ⟨A, c, he, hb⟩
theorem Ring_nil (w : World) : Calls Try.prog 32 #[.pointer none] w fun e w' => ∃ A c, e = .returned (.slice A 0 c) ∧ Below w.heap.size w w' :=
  (Ring_any (.inl ⟨rfl, rfl⟩) LFit.nil).mono fun e w' ho => by
    obtain ⟨A, c, he, _, hb⟩ := ho
    rw [show ringP ⟨[], [], false⟩ = [] by decide +kernel] at he
    exact ⟨A, c, he, hb⟩

set_option maxRecDepth 100000 in
set_option maxHeartbeats 8000000 in
theorem lck_lives_any (w : World) : Calls Try.prog 21 #[] w fun e w' => e = .returned (.bool true) ∧ Below w.heap.size w w' := by
  have i0 : IsI 0 := isI_worker (by decide)
  have i1 : IsI 1 := isI_worker (by decide)
  have i2 : IsI 2 := isI_worker (by decide)
  have i9 : IsI 9 := isI_worker (by decide)
  have i65 : IsI 65 := by unfold IsI; decide
  go_enter Try.func21, Try.ntmps21
  go_wp2_with fail
  refine (LckNew_l1 _).mono ?_
  rintro e w1 ⟨B, rfl, h1⟩
  have H := Lib.hid (Take_l1 h1 (by decide) 0 1 i0 i1)
  rw [show takeX newL 0 1 = liveA by decide, show takeB newL 0 1 = true by decide] at H
  clear h1
  go_wp2_with fail
  refine H.out.mono ?_
  rintro e w2 ⟨rfl, h1⟩
  have H := Lib.hid (Take_l1 h1 (by decide) 1 2 i1 i2)
  rw [show takeX liveA 1 2 = liveB by decide, show takeB liveA 1 2 = true by decide] at H
  clear h1
  go_wp2_with fail
  refine H.out.mono ?_
  rintro e w3 ⟨rfl, h1⟩
  have H := Lib.hid (Take_l1 h1 (by decide) 0 2 i0 i2)
  rw [show takeX liveB 0 2 = liveC by decide, show takeB liveB 0 2 = false by decide] at H
  clear h1
  go_wp2_with fail
  refine H.out.mono ?_
  rintro e w4 ⟨rfl, h1⟩
  have H1 := Lib.hid h1
  clear h1
  go_wp2_with fail
  refine (Rising_l1 H1.out).mono ?_
  rintro e w5 ⟨rfl, rfl⟩
  have H := Lib.hid (Take_l1 H1.out (by decide) 1 1 i1 i1)
  rw [show takeX liveC 1 1 = liveD by decide, show takeB liveC 1 1 = false by decide] at H
  clear H1
  go_wp2_with fail
  refine H.out.mono ?_
  rintro e w5 ⟨rfl, h1⟩
  have H := Lib.hid (Ring_l1 h1 (L := [0, 1]) (l := 2) (by decide +kernel) rfl)
  clear h1
  go_wp2_with fail
  refine H.out.mono ?_
  rintro e w6 ⟨A6, c6, rfl, h1⟩
  have H1 := Lib.hid h1
  clear h1 H
  go_wp2_with fail
  refine (Rising_l1 H1.out).mono ?_
  rintro e w7 ⟨rfl, rfl⟩
  have H := Lib.hid (Waits_l1 H1.out 0 i0)
  rw [show waitOf liveD.ws 0 = some 2 by decide] at H
  go_wp2_with fail
  refine H.out.mono ?_
  rintro e w7 ⟨rfl, rfl⟩
  have H := Lib.hid (Holder_l1 H1.out 2 i2)
  rw [show hold liveD.hs 2 = some 1 by decide] at H
  go_wp2_with fail
  refine H.out.mono ?_
  rintro e w7 ⟨rfl, rfl⟩
  have H := Lib.hid (Give_l1 H1.out 1 2 i1 i2)
  rw [show giveX liveD 1 2 = liveE by decide, show giveB liveD 1 2 = true by decide] at H
  go_wp2_with fail
  refine H.out.mono ?_
  rintro e w7 ⟨rfl, h1⟩
  have H := Lib.hid (Give_l1 h1 1 2 i1 i2)
  rw [show giveX liveE 1 2 = liveE by decide, show giveB liveE 1 2 = false by decide] at H
  clear h1
  go_wp2_with fail
  refine H.out.mono ?_
  rintro e w8 ⟨rfl, h1⟩
  have H := Lib.hid (Take_l1 h1 (by decide) 0 2 i0 i2)
  rw [show takeX liveE 0 2 = liveF by decide, show takeB liveE 0 2 = true by decide] at H
  clear h1
  go_wp2_with fail
  refine H.out.mono ?_
  rintro e w9 ⟨rfl, h1⟩
  have H9 := Lib.hid h1
  clear h1 H
  go_wp2_with fail
  refine (Holder_any (.inl ⟨rfl, rfl⟩) 1 i1).mono ?_
  rintro e w10 ⟨rfl, rfl⟩
  have HB := Lib.hid (H9.out.later (below_new w9 (.cells #[.int .i64 0, .int .i64 1] 3)))
  go_wp2_with fail
  refine Calls.mono (SameI_is (zs := [0, 1]) rfl (HB.out.told (by simp)) (Rd.lit2 (by go_size) (by go_cell) (by go_cell)) (by decide)) ?_
  rintro e w11 ⟨rfl, hb⟩
  have H := Lib.hid (Held_l1 (HB.out.later hb) 0 heldF rfl)
  clear hb HB H9
  go_wp2_with fail
  refine H.out.mono ?_
  rintro e w12 ⟨A12, c12, rfl, h1⟩
  have HB := Lib.hid (h1.later (below_new w12 (.cells #[.int .i64 1, .int .i64 2] 3)))
  clear h1 H
  go_wp2_with fail
  refine Calls.mono (SameI_is (zs := [1, 2]) rfl (HB.out.told (by simp)) (Rd.lit2 (by go_size) (by go_cell) (by go_cell)) (by decide)) ?_
  rintro e w13 ⟨rfl, hb⟩
  have H := Lib.hid (Ring_l1 (HB.out.later hb) (L := []) (by decide +kernel) rfl)
  clear hb HB
  go_wp2_with fail
  refine H.out.mono ?_
  rintro e w14 ⟨A14, c14, rfl, h1⟩
  have H := Lib.hid (Take_l1 h1 (by decide) 0 1 i0 i1)
  rw [show takeX liveF 0 1 = liveF by decide, show takeB liveF 0 1 = false by decide] at H
  clear h1
  go_wp2_with fail
  refine H.out.mono ?_
  rintro e w15 ⟨rfl, h1⟩
  have H := Lib.hid (Take_l1 h1 (by decide) 65 9 i65 i9)
  rw [show takeX liveF 65 9 = liveF by decide, show takeB liveF 65 9 = false by decide] at H
  clear h1
  go_wp2_with fail
  refine H.out.mono ?_
  rintro e w16 ⟨rfl, h1⟩
  have HB := Lib.hid h1.below
  clear h1 H
  go_wp2_with fail
  refine (Take_nil _ _ _).mono ?_
  rintro e w17 ⟨rfl, rfl⟩
  go_wp2_with fail
  refine (Rising_tab (.inl ⟨rfl, rfl⟩)).mono ?_
  rintro e w17 ⟨rfl, rfl⟩
  go_wp2_with fail
  refine (Ring_nil _).mono ?_
  rintro e w17 ⟨A17, c17, rfl, hb⟩
  have HB2 := Lib.hid (Below.next HB.out hb)
  clear hb HB
  go_wp2_with fail
  refine (Held_nil _ _).mono ?_
  rintro e w18 ⟨A18, c18, rfl, hb⟩
  have HB3 := Lib.hid (Below.next HB2.out hb)
  clear hb HB2
  go_wp2
  go_ret
  exact ⟨rfl, HB3.out⟩

end Go.Proofs.Ytdgmcaehadigaaa
