/- The document's own answers for little, as the laws ask for them. -/
import Derived.Test.YtbedlaggmlckdaaLitText
namespace Go.Proofs.Ytbedlaggmlckdaa
open Go.RowKit

def lv0 : ByteArray := ⟨#[172, 2, 1, 97, 128, 0]⟩
def lv1 : ByteArray := ⟨#[1, 97, 128, 0]⟩
def lv2 : ByteArray := ⟨#[128, 0]⟩
def lva : ByteArray := ⟨#[97]⟩
theorem lv_step1 : numStep lv0 0 = (300, lv1, 0) := by decide +kernel
theorem lv_step2 : textStep lv1 0 = (lva, lv2, 0) := by decide +kernel
theorem lv_step3 : numStep lv2 0 = (0, lv2, 7) := by decide +kernel
theorem lv_num : bs (bytesN 300) = ⟨#[172, 2]⟩ := by decide +kernel
theorem lv_text : bs (bytesN lva.size ++ lva.data.toList) = ⟨#[1, 97]⟩ := by decide +kernel
theorem lv_Num1 (b : Nat) (w : World) (h : RdAt w b lv0 0) : Calls Try.prog 27 #[.pointer (some ⟨b, 0, none⟩)] w (NumOut b (300, lv1, 0) w) := by
  rw [← lv_step1]
  exact Num_any b lv0 0 w h (by decide)
theorem lv_Text1 (b : Nat) (w : World) (h : RdAt w b lv1 0) : Calls Try.prog 29 #[.pointer (some ⟨b, 0, none⟩)] w (WordOut b (lva, lv2, 0) w) := by
  rw [← lv_step2]
  exact Text_any b lv1 0 w h (by decide)
theorem lv_Num2 (b : Nat) (w : World) (h : RdAt w b lv2 0) : Calls Try.prog 27 #[.pointer (some ⟨b, 0, none⟩)] w (NumOut b (0, lv2, 7) w) := by
  rw [← lv_step3]
  exact Num_any b lv2 0 w h (by decide)
theorem lv_Left (b y : Nat) (w : World) (h : RdAt w b lv2 y) : Calls Try.prog 31 #[.pointer (some ⟨b, 0, none⟩)] w fun e w' => e = .returned (.int .i64 2) ∧ w = w' :=
  Left_any b lv2 y w h
theorem lv_Why (b : Nat) (w : World) (h : RdAt w b lv2 7) : Calls Try.prog 30 #[.pointer (some ⟨b, 0, none⟩)] w fun e w' => e = .returned (.int .i64 7) ∧ w = w' :=
  Why_any b lv2 7 w h
theorem lv_num300 (w : World) : Calls Try.prog 32 #[.int .u64 300] w (StrOut ⟨#[172, 2]⟩ w) := by
  have h := litNum_any 300 w (by decide)
  rw [lv_num] at h
  exact h
theorem lv_texta (w : World) : Calls Try.prog 34 #[.string ⟨#[97]⟩] w (StrOut ⟨#[1, 97]⟩ w) := by
  have h := litText_any lva w (by decide)
  rw [lv_text] at h
  exact h
theorem lv_sum (w : World) : Calls Try.prog 36 #[.string ⟨#[]⟩] w fun e w' => e = .returned (.int .u32 2166136261) ∧ w = w' :=
  Sum_any ⟨#[]⟩ w (by decide)

set_option maxHeartbeats 1000000 in
theorem lit_lives_any (w : World) : Calls Try.prog 24 #[] w fun e w' => e = .returned (.bool true) ∧ Below w.heap.size w w' := by
  have ha : lva.toList = [97] := ByteArray.toList_mk [97]
  have hn : nob.toList = [] := ByteArray.toList_mk []
  go_enter Try.func24, Try.ntmps24
  go_wp2_with fail
  refine (New_any _ _).mono ?_
  rintro e w1 ⟨rfl, hr, hsz, hb⟩
  have hB := hb
  clear hb
  go_wp2_with fail
  refine (lv_Num1 _ _ hr).mono ?_
  rintro e w2 ⟨rfl, hr2, ht⟩
  have hB2 := hB.trans (ht.below (Nat.le_refl _))
  clear hB hr ht
  go_wp2_with fail
  refine (lv_Text1 _ _ hr2).mono ?_
  rintro e w3 ⟨rfl, hr3, ht⟩
  have hB3 := hB2.trans (ht.below (Nat.le_refl _))
  clear hB2 hr2 ht
  go_wp2_with fail
  refine (lv_Left _ _ _ hr3).mono ?_
  rintro e w' ⟨rfl, rfl⟩
  go_wp2_with fail
  refine (lv_Num2 _ _ hr3).mono ?_
  rintro e w4 ⟨rfl, hr4, ht⟩
  have hB4 := hB3.trans (ht.below (Nat.le_refl _))
  clear hB3 hr3 ht
  go_wp2_with fail
  refine (lv_num300 _).mono ?_
  rintro e w5 ⟨rfl, hb⟩
  have hr5 := hr4.below hb hr4.block
  have hB5 := hB4.trans (hb.mono hB4.size)
  clear hB4 hr4 hb
  go_wp2_with fail
  refine (lv_texta _).mono ?_
  rintro e w6 ⟨rfl, hb⟩
  have hr6 := hr5.below hb hr5.block
  have hB6 := hB5.trans (hb.mono hB5.size)
  clear hB5 hr5 hb
  go_wp2_with fail
  refine (lv_Why _ _ hr6).mono ?_
  rintro e w' ⟨rfl, rfl⟩
  go_wp2_with fail
  refine (lv_Left _ _ _ hr6).mono ?_
  rintro e w' ⟨rfl, rfl⟩
  go_wp2_with fail
  refine (Why_nil _).mono ?_
  rintro e w' ⟨rfl, rfl⟩
  go_wp2_with fail
  refine (Num_nil _).mono ?_
  rintro e w' ⟨rfl, rfl⟩
  go_wp2_with fail
  refine (Text_nil _).mono ?_
  rintro e w' ⟨rfl, rfl⟩
  go_wp2_with fail
  refine (Left_nil _).mono ?_
  rintro e w' ⟨rfl, rfl⟩
  go_wp2_with fail
  refine (lv_sum _).mono ?_
  rintro e w' ⟨rfl, rfl⟩
  go_wp2
  go_ret
  exact ⟨rfl, hB6⟩

end Go.Proofs.Ytbedlaggmlckdaa
