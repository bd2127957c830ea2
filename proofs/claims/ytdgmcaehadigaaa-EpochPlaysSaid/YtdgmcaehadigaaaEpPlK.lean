/- The document's Retire, beside the program's clock (EpochPlays). -/
import Derived.Test.YtdgmcaehadigaaaEpPlJ
import Derived.Test.YtdgmcaehadigaaaRefEpRet
namespace Go.Proofs.Ytdgmcaehadigaaa
open Go.RowKit

theorem Retire_js {w1 w : World} {k : Nat} {p : Value} {x : EX} {D : Nat} {Vb Vd : Value} {F G : World → Prop} (h : JS w1 k p x D Vb Vd x F G w) (hk : k ≤ 100000) (s : Int) : Calls Try.prog 45 #[Vd, .int .i64 s] w fun r w' => ∃ V', r = .returned (.tuple #[V', .bool (!isRet x s)]) ∧ JS w1 k p x D Vb V' (retX x s) F G w' := by
  obtain ⟨Z, h1, h2, h3, hZ, hF, hS⟩ := h
  refine (RRet_any h2 (Nat.le_trans h1.fit.ln hk) s).mono ?_
  rintro r w' ⟨V', rfl, hr, hb⟩
  exact ⟨V', rfl, JS.doc h1 h3 hZ hF hS hb hr⟩
end Go.Proofs.Ytdgmcaehadigaaa
