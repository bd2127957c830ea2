/- tag.Has, by contract. -/
import Derived.Test.YtajmnhnepoomjaaMem
namespace Go.Proofs.Ytajmnhnepoomjaa
open Go.RowKit

theorem tagHas_any (t m : Int) (w : World) :
    Calls Try.prog 82 #[.int .u64 t, .int .u64 m] w fun e w' => e = .returned (.bool (bits .and .u64 t m == m)) ∧ w = w' := by
  go_enter Try.func82, Try.ntmps82
  go_wp2
  go_ret
  exact ⟨rfl, rfl⟩

end Go.Proofs.Ytajmnhnepoomjaa
