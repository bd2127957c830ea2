/- tag.Has, by contract. -/
import Derived.Test.YtlgkdonaplejdaaMem
namespace Go.Proofs.Ytlgkdonaplejdaa
open Go.RowKit

theorem tagHas_any (t m : Int) (w : World) :
    Calls Try.prog 90 #[.int .u64 t, .int .u64 m] w fun e w' => e = .returned (.bool (bits .and .u64 t m == m)) ∧ w = w' := by
  go_enter Try.func90, Try.ntmps90
  go_wp2
  go_ret
  exact ⟨rfl, rfl⟩

end Go.Proofs.Ytlgkdonaplejdaa
