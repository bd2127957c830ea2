/- Where the first plus of a text stands, as strings.Index tells it. -/
import Derived.Test.YtepngkhepcjdfaaDoorTagNames
import Derived.Laws.Externs
namespace Go.Proofs.YtepngkhepcjdfaaDoor
open Go.RowKit

theorem run_plus (s : ByteArray) (w : World) : (callFunc 62 #[.string s, .int .u8 43]).run Tryd.prog w = .ok (.value (.int .i64 (firstIdx s 43))) w := by
  rw [run_callFunc_extern (e := Extern.BytealgIndexByte.indexByte) Tryd.func62 (by kernel_rfl) (by kernel_rfl) (by kernel_rfl) (by kernel_rfl), run_indexByte_string]
  rfl

set_option maxHeartbeats 1000000 in
theorem IndexByte_any (s : ByteArray) (w : World) :
    Calls Tryd.prog 58 #[.string s, .int .u8 43] w fun e w' => e = .returned (.int .i64 (firstIdx s 43)) ∧ w = w' := by
  have hx := run_plus s w
  go_enter Tryd.func58, Tryd.ntmps58
  go_wp2
  go_ret
  exact ⟨rfl, rfl⟩

set_option maxRecDepth 100000 in
set_option maxHeartbeats 1000000 in
theorem liteIndex_any (s : ByteArray) (w : World) :
    Calls Tryd.prog 57 #[.string s, .string (ByteArray.mk #[43])] w fun e w' => e = .returned (.int .i64 (firstIdx s 43)) ∧ w = w' := by
  by_cases h : ByteArray.mk #[43] = s
  · subst h
    have h0 : firstIdx (ByteArray.mk #[43]) 43 = 0 := by kernel_rfl
    have HF := Lib.hid h0
    clear h0
    go_enter Tryd.func57, Tryd.ntmps57
    go_wp2
    go_ret
    exact ⟨ret_int HF.out.symm, rfl⟩
  · have he := (Lib.bytes_beq_false_iff (ByteArray.mk #[43]) s).2 h
    rw [ByteArray.toList_eq (ByteArray.mk #[43])] at he
    clear h
    go_enter Tryd.func57, Tryd.ntmps57
    go_wp2_with fail
    refine (IndexByte_any s _).mono ?_
    rintro e w2 ⟨rfl, rfl⟩
    go_wp2
    go_ret
    exact ⟨rfl, rfl⟩

set_option maxHeartbeats 1000000 in
theorem strIndex_any (s : ByteArray) (w : World) :
    Calls Tryd.prog 55 #[.string s, .string (ByteArray.mk #[43])] w fun e w' => e = .returned (.int .i64 (firstIdx s 43)) ∧ w = w' := by
  go_enter Tryd.func55, Tryd.ntmps55
  go_wp2_with fail
  refine (liteIndex_any s _).mono ?_
  rintro e w2 ⟨rfl, rfl⟩
  go_wp2
  go_ret
  exact ⟨rfl, rfl⟩

end Go.Proofs.YtepngkhepcjdfaaDoor
