/- The best of what it knows (ProbeBest): for any vector, mask, items and number, what a probe finds is the least of all that was offered and has the tags, what it wants was offered, the nearest first, and with room for all it wants all; ProbeBest answers true, for every input. -/
import Derived.Test.YtajmnhnepoomjaaPrbBestL
import Derived.Test.YtajmnhnepoomjaaLaw
import Derived.Test.YtajmnhnepoomjaaLawVecS
import Derived.Test.YtajmnhnepoomjaaLawItems
namespace Go.Proofs.Ytajmnhnepoomjaa.lawProbeBest
open Go.ChangeShapes Go.WideShapes Go.ChangeAt Go.RowKit Go.Deep

theorem own : ownKnob Try.prog.godebug = none := by kernel_rfl
theorem laidOut : laidOutB Try.prog = true := by kernel_rfl
theorem bytes32 : Try.checked.prog.bytesOf 21 = 4 := by kernel_rfl
theorem sound : ∀ t ∈ Try.f6.params.toList, Try.prog.readableRec t = true ∧ t < Try.prog.types.size := by
  have h : (Try.f6.params.toList.all fun t => Try.prog.readableRec t && decide (t < Try.prog.types.size)) = true := by kernel_rfl
  intro t ht
  have := List.all_eq_true.1 h t ht
  simpa using this

set_option maxRecDepth 100000 in
theorem lifted (os : Os) (started : os.Started) (H : Type) (enc : TypeId × Value → H) :
    ReturnsInHanded {} Try.checked os 6 .any (Rows.probeBestSpec.pre6 enc Try.prog Try.f6 Rows.probeBestRow.domain false)
      (Rows.probeBestSpec.post enc Try.prog Try.f6 false true false false) := by
  refine returnsInHanded_of_change_sized (C := Try.checked) own started (by kernel_rfl) Try.func6
    (ChangeSpec.witness6 (enc := enc) (C := Try.checked) false ⟨#[], #[.slice none 0 0, .int .u64 0, .slice none 0 0, .int .i64 0], []⟩ 8 (by kernel_rfl) (by kernel_rfl) (by kernel_rfl) (by kernel_rfl)) ?_
  intro W base args ds gs before hval0 hW _ hS _
  have hval : ∀ (j : Nat) t v, Try.f6.params[j]? = some t → args[j]? = some v → Value.okWide Try.prog W .any base t v := hval0
  have hW' := hW
  obtain ⟨p, q, hA0, hV, hpq, _, _⟩ := hW
  have hA : DataW.TrodAll enc Try.prog W 0 (fun _ => true) true Try.f6.params.toList args.toList ds p := hA0
  rw [Try.params6] at hA hval
  obtain ⟨rfl, _⟩ := trodVars_none hV
  obtain ⟨v0, vs0, d0, ds0, p0, q0, hargs, rfl, _, h0, r0⟩ := trodAll_cons hA
  obtain ⟨v1, vs1, d1, ds1, p1, q1, rfl, rfl, _, h1, r1⟩ := trodAll_cons r0
  obtain ⟨v2, vs2, d2, ds2, p2, q2, rfl, rfl, _, h2, r2⟩ := trodAll_cons r1
  obtain ⟨v3, vs3, d3, ds3, p3, q3, rfl, rfl, _, h3, r3⟩ := trodAll_cons r2
  obtain ⟨rfl, rfl, _⟩ := trodAll_nil r3
  obtain rfl : args = #[v0, v1, v2, v3] := by cases args; simp_all
  obtain ⟨A0, zs0, c0, rfl, hV0, hz0⟩ := open_vecS Try.underlying23 Try.underlying21 (by kernel_rfl) (hval 0 23 v0 rfl rfl) h0
  have hq0 : zs0.length * 4 ≤ 140737488351232 := by
    rcases hz0 with h | ⟨es, sp, hd, hl⟩
    · rw [h]; decide
    · have hs := sized_slice hS (j := 0) (t := 23) (elems := es) (spare := sp) rfl (by rw [hd]; rfl) Try.underlying23
      rw [bytes32] at hs
      unfold reachBytes at hs
      omega
  obtain ⟨x1, rfl, _, _, _⟩ := open_int Try.underlying24 (hval 1 24 v1 rfl rfl) h1
  obtain ⟨A2, zs2, c2, rfl, hI2, hk2, hm2, hn2⟩ := open_items Try.underlying22 Try.underlying36 (by kernel_rfl) (by kernel_rfl) Try.underlying24 Try.underlying23 Try.underlying24 Try.underlying21 (by kernel_rfl) (hval 2 22 v2 rfl rfl) h2
  obtain ⟨x3, rfl, _, _, w3⟩ := open_int Try.underlying3 (hval 3 3 v3 rfl rfl) h3
  refine (ProbeBest_walk A0 zs0 c0 x1 A2 zs2 c2 x3 W hV0 hq0 hI2 (Nat.le_trans hk2 hm2) (bounds_i64 w3)).mono fun e W' ⟨he, hb⟩ => ?_
  subst he
  exact ⟨_, rfl, law_post (tb := 4) laidOut sound rfl Try.underlying4 rfl hW' rfl rfl rfl hb⟩

theorem proved : Rows.ProbeBestSaid :=
  OpenClaim.holds_of_wide 6 Try.f6 rfl rfl rfl rfl rfl rfl rfl ⟨rfl, rfl, rfl, rfl, rfl⟩ rfl rfl rfl rfl rfl (by kernel_rfl) Try.func6 (by kernel_rfl)
    (of_decide_eq_true (by kernel_rfl)) (by unfold Func.isWrapper; first | (rw [if_pos (by decide +kernel)]; kernel_rfl) | (rw [if_neg (by decide +kernel)]; exact ⟨rfl, rfl⟩))
    (fun os started H enc _ => lifted os started H enc)

end Go.Proofs.Ytajmnhnepoomjaa.lawProbeBest
