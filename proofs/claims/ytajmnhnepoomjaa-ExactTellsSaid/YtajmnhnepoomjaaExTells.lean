/- What exact tells, held against the document's answer (ExactTells), walked. -/
import Derived.Test.YtajmnhnepoomjaaRefExact
namespace Go.Proofs.Ytajmnhnepoomjaa
open Go.RowKit Go.Shelf Go.Sort Go.Lib

/-- What the last region keeps: the hit in its box, items and vector. -/
structure TellK (X W : World) (D : Nat) (ya yb : Int) (A : Option Addr) (its : List ItT) (Q : Option Addr) (q : List Int) : Prop where
  hb : Below X.heap.size X W
  hI : ItemsAt W W.heap.size A its
  hQ : VecB W W.heap.size Q q
  d0 : W.cell? ⟨D, 0, none⟩ = some (.int .u64 ya)
  d1 : W.cell? ⟨D, 1, none⟩ = some (.int .u64 yb)
section
variable {X W W' : World} {D : Nat} {ya yb : Int} {A : Option Addr} {its : List ItT} {Q : Option Addr} {q : List Int}
theorem TellK.grow (h : TellK X W D ya yb A its Q q) (hb : Below W.heap.size W W') : TellK X W' D ya yb A its Q q :=
  ⟨h.hb.trans (hb.mono h.hb.size), (h.hI.below hb).more hb.size, (h.hQ.below hb).more hb.size, (hb.cell (p := ⟨D, 0, none⟩) (World.block_lt_of_cell? _ _ h.d0)).trans h.d0, (hb.cell (p := ⟨D, 1, none⟩) (World.block_lt_of_cell? _ _ h.d1)).trans h.d1⟩
theorem TellK.drew (h : TellK X W D ya yb A its Q q) : TellK X W.drew D ya yb A its Q q := h.grow (below_draws _ 1 _)
theorem TellK.all (h : TellK X W D ya yb A its Q q) : TellK X W D ya yb A its Q q ∧ W.cell? ⟨D, 0, none⟩ = some (.int .u64 ya) ∧ W.cell? ⟨D, 1, none⟩ = some (.int .u64 yb) := ⟨h, h.d0, h.d1⟩
/-- A search's answer, kept. -/
def SearchC (K : World → Prop) (L : List HitT) (e : Ending) (W' : World) : Prop := ∃ A c, e = .returned (.slice A L.length c) ∧ K W' ∧ RdH W' W'.heap.size A L
theorem HitsOut.keep {L : List HitT} {e : Ending} (h : TellK X W D ya yb A its Q q) (ho : HitsOut L W e W') : ∃ A' c, e = .returned (.slice A' L.length c) ∧ TellK X W' D ya yb A its Q q ∧ RdH W' W'.heap.size A' L := by
  obtain ⟨A', c, he, hr, -, -, hb⟩ := ho
  exact ⟨A', c, he, h.grow hb, hr⟩
end

set_option maxRecDepth 100000 in
set_option maxHeartbeats 8000000 in
theorem ExactTells_walk (A : Option Addr) (its : List ItT) (ca : Nat) (Q : Option Addr) (q : List Int) (cq : Nat) (mask k most ya yb : Int) (w : World) (hI : ItemsAt w w.heap.size A its) (_hil : its.length ≤ 9223372036854775807) (hQ : VecB w w.heap.size Q q) :
    Calls Try.prog 3 #[.slice A its.length ca, .slice Q q.length cq, .int .u64 mask, .int .i64 k, .int .u64 most, .agg #[.int .u64 ya, .int .u64 yb]] w fun e w' => e = .returned (.bool true) ∧ Below w.heap.size w w' := by
  have mixed : Try.prog.follows .mixedOrders = true := by kernel_rfl
  have hb0 := below_new3 w (.cells #[.int .u64 ya, .int .u64 yb] 26)
  have HT0 : Hid (TellK w (w.alloc (.cells #[.int .u64 ya, .int .u64 yb] 26)) w.heap.size ya yb A its Q q) := ⟨hb0, (hI.below hb0).more hb0.size, (hQ.below hb0).more hb0.size, by go_cell, by go_cell⟩
  clear hI hQ hb0
  go_enter Try.func3, Try.ntmps3
  go_wp2_with fail
  refine (few_any A its ca _ HT0.out.hI).mono ?_
  rintro e w2 ⟨bf, rfl, hf, hb2⟩
  have HT2 := Lib.hid (HT0.out.grow hb2)
  cases bf
  · clear hf hb2 HT0
    go_wp2_with fail
    refine (ex_lives_any w2).mono ?_
    rintro e w3 ⟨rfl, hb3⟩
    have HB3 := Lib.hid (HT2.out.grow hb3).hb
    clear hb3
    go_wp2
    go_ret
    exact ⟨rfl, HB3.out⟩
  have N := Lib.hid (hf rfl)
  clear hf hb2 HT0
  by_cases hq : 100 < q.length
  · have h2 : (100 : Int) < (q.length : Int) := by omega
    clear hq
    go_wp2_with fail
    refine (ex_lives_any w2).mono ?_
    rintro e w3 ⟨rfl, hb3⟩
    have HB3 := Lib.hid (HT2.out.grow hb3).hb
    clear hb3
    go_wp2
    go_ret
    exact ⟨rfl, HB3.out⟩
  have h2 : ¬ (100 : Int) < (q.length : Int) := by omega
  have h3 : decide ((100 : Int) < (q.length : Int)) = false := by simpa using h2
  have HS1 : Hid (∀ W, TellK w W w.heap.size ya yb A its Q q → Calls Try.prog 15 #[.slice A its.length ca, .slice Q q.length cq, .int .u64 mask, .int .i64 k] W fun e W' => ∃ A' c, e = .returned (.slice A' (searchL q mask its k).length c) ∧ TellK w W' w.heap.size ya yb A its Q q ∧ RdH W' W'.heap.size A' (searchL q mask its k)) := Lib.hid fun W h => (Search_any A its ca Q q cq mask k (by have := N.out; omega) W h.hI h.hQ).mono fun _ _ ho => ho.keep h
  have HS2 : Hid (∀ W, TellK w W w.heap.size ya yb A its Q q → Calls Try.prog 16 #[.slice A its.length ca, .slice Q q.length cq, .int .u64 mask, .int .i64 k] W fun e W' => ∃ A' c, e = .returned (.slice A' (searchL q mask its k).length c) ∧ TellK w W' w.heap.size ya yb A its Q q ∧ RdH W' W'.heap.size A' (searchL q mask its k) ∧ Below W.heap.size W W') := Lib.hid fun W h => (refSearch_any A its ca Q q cq mask k (by have := N.out; omega) W h.hI h.hQ).mono fun _ _ ho => by
    obtain ⟨A', c, he, hr, hc, hm, hb⟩ := ho
    exact ⟨A', c, he, h.grow hb, hr, hb⟩
  have HL1 : Hid ((searchL q mask its k).length ≤ 1000) := by
    rw [Hid]
    unfold searchL
    rw [List.length_take]
    have := ordH_len q mask its
    have := N.out
    omega
  generalize searchL q mask its k = L at *
  have HW1 : Hid (∀ W, TellK w W w.heap.size ya yb A its Q q → Calls Try.prog 17 #[.slice A its.length ca, .slice Q q.length cq, .int .u64 mask, .int .u64 most] W fun e W' => ∃ A' c, e = .returned (.slice A' (withinL q mask its most).length c) ∧ TellK w W' w.heap.size ya yb A its Q q ∧ RdH W' W'.heap.size A' (withinL q mask its most)) := Lib.hid fun W h => (Within_any A its ca Q q cq mask most (by have := N.out; omega) W h.hI h.hQ).mono fun _ _ ho => ho.keep h
  have HW2 : Hid (∀ W, TellK w W w.heap.size ya yb A its Q q → Calls Try.prog 18 #[.slice A its.length ca, .slice Q q.length cq, .int .u64 mask, .int .u64 most] W fun e W' => ∃ A' c, e = .returned (.slice A' (withinL q mask its most).length c) ∧ TellK w W' w.heap.size ya yb A its Q q ∧ RdH W' W'.heap.size A' (withinL q mask its most) ∧ Below W.heap.size W W') := Lib.hid fun W h => (refWithin_any A its ca Q q cq mask most (by have := N.out; omega) W h.hI h.hQ).mono fun _ _ ho => by
    obtain ⟨A', c, he, hr, hc, hm, hb⟩ := ho
    exact ⟨A', c, he, h.grow hb, hr, hb⟩
  have HL2 : Hid ((withinL q mask its most).length ≤ 1000) := by
    rw [Hid]
    unfold withinL
    have h1 := List.length_filter_le (fun h : HitT => decide (h.1 ≤ most)) (ordH q mask its)
    have := ordH_len q mask its
    have := N.out
    omega
  generalize withinL q mask its most = M at *
  have HP1 : Hid (∀ W, TellK w W w.heap.size ya yb A its Q q → Calls Try.prog 19 #[.slice A its.length ca, .slice Q q.length cq, .int .u64 mask, .agg #[.int .u64 ya, .int .u64 yb]] W fun e W' => e = .returned (.int .i64 (placeN q mask its (ya, yb) : Int)) ∧ TellK w W' w.heap.size ya yb A its Q q) := Lib.hid fun W h => (Place_any A its ca Q q cq mask (ya, yb) (by have := N.out; omega) W h.hI h.hQ).mono fun _ _ ⟨he, hb⟩ => ⟨he, h.grow hb⟩
  have HP2 : Hid (∀ W, TellK w W w.heap.size ya yb A its Q q → Calls Try.prog 20 #[.slice A its.length ca, .slice Q q.length cq, .int .u64 mask, .agg #[.int .u64 ya, .int .u64 yb]] W fun e W' => e = .returned (.int .i64 (placeN q mask its (ya, yb) : Int)) ∧ TellK w W' w.heap.size ya yb A its Q q) := Lib.hid fun W h => (refPlace_any A its ca Q q cq mask ya yb (by have := N.out; omega) W h.hI h.hQ).mono fun _ _ ⟨he, hb⟩ => ⟨he, h.grow hb⟩
  generalize placeN q mask its (ya, yb) = pn at *
  have HLV : Hid (∀ W, TellK w W w.heap.size ya yb A its Q q → Calls Try.prog 13 #[] W fun e W' => e = .returned (.bool true) ∧ TellK w W' w.heap.size ya yb A its Q q) := Lib.hid fun W h => (ex_lives_any W).mono fun _ _ ⟨he, hb⟩ => ⟨he, h.grow hb⟩
  have HSM : Hid (∀ W A1 A2 c1 c2 (R : List HitT), R.length ≤ 1000 → TellK w W w.heap.size ya yb A its Q q → RdH W W.heap.size A1 R → RdH W W.heap.size A2 R → Calls Try.prog 14 #[.slice A1 R.length c1, .slice A2 R.length c2] W fun e W' => e = .returned (.bool true) ∧ TellK w W' w.heap.size ya yb A its Q q) := Lib.hid fun W A1 A2 c1 c2 R hl h h1 h2 => (SameH_refl A1 A2 R c1 c2 W h1 h2 (by omega)).mono fun _ _ ⟨he, hd⟩ => ⟨he, h.grow (drawn_below hd)⟩
  have HT3 := HT2.out
  generalize w.heap.size = D at *
  go_upto_region 3 with (fail)
  go_region_held3 (fun W => TellK w W D ya yb A its Q q ∧ W.cell? ⟨D, 0, none⟩ = some (.int .u64 ya) ∧ W.cell? ⟨D, 1, none⟩ = some (.int .u64 yb))
    (with_reducible first | exact TellK.all (by assumption) | exact TellK.all (TellK.drew (by assumption)) | exact TellK.all (And.left (by assumption)) | exact TellK.all (TellK.drew (And.left (by assumption))))
    (first
      | (go_at_call 13; (with_reducible first | refine Calls.mono (HLV.out _ (And.left (by assumption))) ?_ | refine Calls.mono (HLV.out _ (TellK.drew (by assumption))) ?_ | refine Calls.mono (HLV.out _ (by assumption)) ?_); rintro e W1 ⟨rfl, hk1⟩)
      | (go_at_call 15; (with_reducible refine Calls.mono (HS1.out _ (And.left (by assumption))) ?_); rintro e W2 ⟨A2, c2, rfl, hk2, hr2⟩)
      | (go_at_call 16; (with_reducible refine Calls.mono (HS2.out _ (And.left (by assumption))) ?_); rintro e W3 ⟨A3, c3, rfl, hk3, hr3, hb3⟩)
      | (go_at_call 17; (with_reducible refine Calls.mono (HW1.out _ (And.left (by assumption))) ?_); rintro e W5 ⟨A5, c5, rfl, hk5, hr5⟩)
      | (go_at_call 18; (with_reducible refine Calls.mono (HW2.out _ (And.left (by assumption))) ?_); rintro e W6 ⟨A6, c6, rfl, hk6, hr6, hb6⟩)
      | (go_at_call 19; (with_reducible refine Calls.mono (HP1.out _ (And.left (by assumption))) ?_); rintro e W8 ⟨rfl, hk8⟩)
      | (go_at_call 20; (with_reducible refine Calls.mono (HP2.out _ (And.left (by assumption))) ?_); rintro e W9 ⟨rfl, hk9⟩)
      | (go_at_call 14; (with_reducible first | refine Calls.mono (HSM.out W3 A2 A3 c2 c3 L HL1.out hk3 ((hr2.below hb3).more hb3.size) hr3) ?_ | refine Calls.mono (HSM.out W6 A5 A6 c5 c6 M HL2.out hk6 ((hr5.below hb6).more hb6.size) hr6) ?_); rintro e W7 ⟨rfl, hk7⟩))
  all_goals
    have HB9 := Lib.hid hk9.hb
    clear hk1 hk2 hk3 hk5 hk6 hk7 hk8 hk9 hr2 hr3 hr5 hr6 hb3 hb6
    go_wp2
    go_ret
    exact ⟨rfl, HB9.out⟩

end Go.Proofs.Ytajmnhnepoomjaa
