/- What stage 11's top laws ask first (begins11): the answer is 'true'. -/
import Derived.Test.YtoaikdnooafjmaaArJ
import Derived.Test.YtoaikdnooafjmaaImOneP
namespace Go.Proofs.Ytoaikdnooafjmaa
open Go.RowKit

section
variable {w00 w0 w w' : World} {m B bs n : Nat} {bm : Nat → Nat} {x : IX} {J : Nat → Prop}
theorem IJ.base (h : IJ w0 m B bs bm n x J w) (hb : Below w00.heap.size w00 w0) : IJ w00 m B bs bm n x J w :=
  { h with bel := hb.trans (h.bel.mono hb.size), lo := fun b e => Nat.le_trans hb.size (h.lo b e), own := fun b e => ⟨Nat.le_trans hb.size (h.own b e).1, (h.own b e).2⟩ }
/-- Others have written elsewhere. -/
theorem IJ.kept (h : IJ w0 m B bs bm n x J w) (hb : Below w0.heap.size w0 w') (hs : ∀ b, J b → b < w'.heap.size) (hk : KeepI (ImM B bs bm n) w w') : IJ w0 m B bs bm n x J w' :=
  { im := h.im.same (fun b e => hk b (by rw [← h.sh]; exact e)), fit := h.fit, sh := h.sh, bel := hb, lo := h.lo, own := fun b e => ⟨(h.own b e).1, hs b e, (h.own b e).2.2⟩ }
end
deriving instance DecidableEq for AR
def bA : AR := ⟨[1], [0], []⟩
theorem isU5 : IsU 5 := rfl
set_option maxRecDepth 100000 in
set_option maxHeartbeats 4000000 in
theorem begins11_any (w : World) : Calls Try.prog 110 #[] w fun e w' => e = .returned (.bool true) ∧ Below w.heap.size w w' := by
  go_enter Try.func110, Try.ntmps110
  go_wp2_with fail
  refine (arNew_aj 1 (by decide) (by decide) w).mono ?_
  rintro e w1 ⟨B, rfl, h1⟩
  have H1 := Lib.hid h1
  clear h1
  go_wp2_with fail
  refine (imNew_ij 1 (by decide) (by decide) w1).mono ?_
  rintro e w2 ⟨C, bs, bm, rfl, h2⟩
  have HA := Lib.hid (H1.out.write (J' := ImM C bs bm 1) (M := fun _ => False) (Chg.of_below h2.bel) (fun _ e => e.elim) (fun b hb => .inr ⟨h2.lo b hb, h2.mlt hb⟩))
  have H2 := Lib.hid (h2.base H1.out.below)
  clear h2 H1
  have H := Lib.hid (arAlloc_aj HA.out)
  rw [show alX (arNew 1) = bA by decide, show alS (arNew 1) = 1 by decide, show alG (arNew 1) = 0 by decide, show alB (arNew 1) = true by decide] at H
  go_wp2_with fail
  refine H.out.mono ?_
  rintro e w3 ⟨rfl, h1, hk⟩
  have H3' := H2.out.kept h1.below (fun _ e => e.elim) hk
  have H3 : Hid (IC w 0 C bs bm 1 (imNew 1) [(w3.heap.size, [.int .i64 1, .int .i64 0])] (w3.alloc (.cells #[.int .i64 1, .int .i64 0] 99))) := Lib.hid (IC.box (L := []) ⟨H3'.sub (fun _ ⟨p, hp, _⟩ => by cases hp), fun p hp => by cases hp⟩ [.int .i64 1, .int .i64 0] 99)
  clear H3' h1 hk H H2 HA
  have c0 := H3.out.2 (w3.heap.size, [.int .i64 1, .int .i64 0]) (by simp) 0 _ rfl
  have c1 := H3.out.2 (w3.heap.size, [.int .i64 1, .int .i64 0]) (by simp) 1 _ rfl
  have H := Lib.hid (imPut_ij H3.out.1 (by decide) isU5 1 0)
  rw [show imHas (imNew 1) 5 = false from rfl] at H
  go_wp2_with fail
  refine H.out.mono ?_
  rintro e w4 ⟨rfl, h1, _⟩
  have H4 := Lib.hid h1
  clear h1 H H3 c0 c1
  have H := Lib.hid (imLen_ij H4.out (by decide))
  rw [show (imPut (imNew 1) 5 (1, 0)).L.length = 1 from rfl] at H
  go_wp2_with fail
  refine H.out.mono ?_
  rintro e w5 ⟨rfl, rfl⟩
  have HB := Lib.hid H4.out.bel
  clear H H4
  go_wp2
  go_ret
  exact ⟨rfl, HB.out⟩

end Go.Proofs.Ytoaikdnooafjmaa
