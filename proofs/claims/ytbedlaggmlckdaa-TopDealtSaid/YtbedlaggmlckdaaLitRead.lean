/- The contracts of a reader: what it reads, what is left, and the first error. -/
import Derived.Test.YtbedlaggmlckdaaLitCut
namespace Go.Proofs.Ytbedlaggmlckdaa
open Go.RowKit

def nob : ByteArray := ⟨#[]⟩
/-- What is cut off for a text: the text, what stands behind it, the error. -/
def textR (s : ByteArray) : ByteArray × ByteArray × Nat :=
  if (numL s.data.toList).2.2 = 0 then
    if 65536 < (numL s.data.toList).1 then (nob, nob, 9)
    else if (restB s (numL s.data.toList)).size < (numL s.data.toList).1 then (nob, nob, 8)
    else ((restB s (numL s.data.toList)).extract 0 (numL s.data.toList).1, (restB s (numL s.data.toList)).extract (numL s.data.toList).1 (restB s (numL s.data.toList)).size, 0)
  else (nob, nob, (numL s.data.toList).2.2)

/-- What a reader does with s left and error y: what it tells, what is left, the error. -/
def numStep (s : ByteArray) (y : Nat) : Nat × ByteArray × Nat :=
  if y = 0 then if (numL s.data.toList).2.2 = 0 then ((numL s.data.toList).1, restB s (numL s.data.toList), 0) else (0, s, (numL s.data.toList).2.2) else (0, s, y)
def textStep (s : ByteArray) (y : Nat) : ByteArray × ByteArray × Nat :=
  if y = 0 then if (textR s).2.2 = 0 then ((textR s).1, (textR s).2.1, 0) else (nob, s, (textR s).2.2) else (nob, s, y)

def TextOut (s : ByteArray) (w : World) (e : Ending) (w' : World) : Prop :=
  e = .returned (.tuple #[.string (textR s).1, .string (textR s).2.1, .int .i64 (textR s).2.2]) ∧ Drawn w w'
theorem text_mk {s t1 t2 : ByteArray} {w w' : World} {y : Nat} {yv : Int} (h : textR s = (t1, t2, y)) (hd : Drawn w w') (hy : yv = (y : Int)) :
    TextOut s w (.returned (.tuple #[.string t1, .string t2, .int .i64 yv])) w' := by
  refine ⟨?_, hd⟩
  rw [h, hy]

theorem numGo_lt (l : List UInt8) : ∀ i acc, acc < 2 ^ (7 * i) → (numGo l i acc).1 < 18446744073709551616 := by
  induction l with
  | nil => intro i acc _; simp [numGo]
  | cons c r ih =>
    intro i acc ha
    unfold numGo
    split
    · simp
    · rename_i h
      have hp := part_add acc c.toNat i ha (by omega) (by omega)
      split
      · exact ih _ _ hp.2.1
      · split
        · simp
        · exact hp.2.2
theorem numL_lt (l : List UInt8) : (numL l).1 < 18446744073709551616 := numGo_lt l 0 0 (by decide)
theorem restB_size (s : ByteArray) (r : Nat × Nat × Nat) : (restB s r).size ≤ s.size := by
  unfold restB
  split
  · rw [ByteArray.size_extract]; omega
  · exact Nat.zero_le _

set_option maxRecDepth 100000 in
set_option maxHeartbeats 1000000 in
theorem cutText_any (s : ByteArray) (w : World) (hs : s.size ≤ maxLen) :
    Calls Try.prog 45 #[.string s] w (TextOut s w) := by
  have hc := cutNum_any s w hs
  have hlt := numL_lt s.data.toList
  have hrs := restB_size s (numL s.data.toList)
  have HT : Hid (textR s = _) := Lib.hid (show textR s = _ from by rw [textR])
  unfold CutOut at hc
  unfold maxLen at hs
  generalize restB s (numL s.data.toList) = t at *
  generalize numL s.data.toList = r at *
  obtain ⟨n, k, y⟩ := r
  simp only at hc hlt HT
  have HC := Lib.hid hc
  clear hc
  have hn1 : (n : Int) ≤ 18446744073709551615 := by omega
  by_cases hy : y = 0
  · have HT2 : Hid (textR s = if 65536 < n then (nob, nob, 9) else if t.size < n then (nob, nob, 8) else (t.extract 0 n, t.extract n t.size, 0)) := by
      rw [Hid, HT.out, if_pos hy]
    clear HT
    subst hy
    by_cases h9 : 65536 < n
    · have HR : Hid (textR s = (nob, nob, 9)) := by rw [Hid, HT2.out, if_pos h9]
      go_enter Try.func45, Try.ntmps45
      go_wp2_with fail
      refine HC.out.mono ?_
      rintro e w' ⟨rfl, hd⟩
      have hnI : (65536 : Int) < (n : Int) := by omega
      go_wp2
      go_ret3
      exact text_mk HR.out hd rfl
    · by_cases h8 : t.size < n
      · have HR : Hid (textR s = (nob, nob, 8)) := by rw [Hid, HT2.out, if_neg h9, if_pos h8]
        go_enter Try.func45, Try.ntmps45
        go_wp2_with fail
        refine HC.out.mono ?_
        rintro e w' ⟨rfl, hd⟩
        have hnI : (n : Int) ≤ 65536 := by omega
        have hnJ : (t.size : Int) < (n : Int) := by omega
        go_wp2
        go_ret3
        exact text_mk HR.out hd rfl
      · have HR : Hid (textR s = (t.extract 0 n, t.extract n t.size, 0)) := by rw [Hid, HT2.out, if_neg h9, if_neg h8]
        go_enter Try.func45, Try.ntmps45
        go_wp2_with fail
        refine HC.out.mono ?_
        rintro e w' ⟨rfl, hd⟩
        have hnI : (n : Int) ≤ 65536 := by omega
        have hnJ : (n : Int) ≤ (t.size : Int) := by omega
        have hn0 : (0 : Int) ≤ (n : Int) := by omega
        go_wp2
        go_quiet (fail)
        go_wp2
        go_ret3
        exact text_mk HR.out (hd.step _) rfl
  · have HR : Hid (textR s = (nob, nob, y)) := by rw [Hid, HT.out, if_neg hy]
    clear HT
    have hyb : ((y : Int) != 0) = true := by simp [hy]
    clear hy
    go_enter Try.func45, Try.ntmps45
    go_wp2_with fail
    refine HC.out.mono ?_
    rintro e w' ⟨rfl, hd⟩
    go_wp2
    go_ret3
    exact text_mk HR.out hd rfl

end Go.Proofs.Ytbedlaggmlckdaa
