/- Lists that were told, in blocks that others don't write. -/
import Derived.Test.YtdgmcaehadigaaaRacAt
namespace Go.Proofs.Ytdgmcaehadigaaa
open Go.RowKit

/-- Numbers at A, in blocks that are not in Z. -/
def RdZ (w : World) (Z : Nat → Prop) (A : Option Addr) (L : List Int) : Prop :=
  ∀ k z, L[k]? = some z → ∃ b off, A = some ⟨b, off, none⟩ ∧ b < w.heap.size ∧ ¬ Z b ∧ w.cell? ⟨b, off + k, none⟩ = some (.int .i64 z)
theorem RdZ.rd {w : World} {Z : Nat → Prop} {A : Option Addr} {L : List Int} (h : RdZ w Z A L) : Rd (Value.int .i64) w w.heap.size A L := fun k z hk => by
  obtain ⟨b, off, h1, h2, _, h4⟩ := h k z hk
  exact ⟨b, off, h1, h2, h4⟩
theorem RdZ.chg {w w' : World} {Z M : Nat → Prop} {A : Option Addr} {L : List Int} (h : RdZ w Z A L) (hc : Chg M w w') (hM : ∀ b, M b → Z b) : RdZ w' Z A L := fun k z hk => by
  obtain ⟨b, off, h1, h2, h3, h4⟩ := h k z hk
  exact ⟨b, off, h1, Nat.lt_of_lt_of_le h2 hc.size, h3, (hc.cell (p := ⟨b, off + k, none⟩) h2 (fun e => h3 (hM _ e))).trans h4⟩
/-- A list that was told, and where it lies. -/
abbrev ToldT := Option Addr × List Int

end Go.Proofs.Ytdgmcaehadigaaa
