/- The contracts of a reader's calls: what each tells, and what the reader holds behind it. -/
import Derived.Test.YtbedlaggmlckdaaLitRead
import Derived.Handy
namespace Go.Proofs.Ytbedlaggmlckdaa
open Go.RowKit

/-- A reader lies in block b: what is left, and the error. -/
def RdAt (w : World) (b : Nat) (s : ByteArray) (y : Nat) : Prop :=
  w.cell? ⟨b, 0, none⟩ = some (.string s) ∧ w.cell? ⟨b, 1, none⟩ = some (.int .i64 y) ∧ w.frozen? ⟨b, 0, none⟩ = false ∧ w.frozen? ⟨b, 1, none⟩ = false
theorem RdAt.block {w : World} {b : Nat} {s : ByteArray} {y : Nat} (h : RdAt w b s y) : b < w.heap.size := World.block_lt_of_cell? w _ h.1
theorem RdAt.below {w w' : World} {b : Nat} {s : ByteArray} {y B : Nat} (h : RdAt w b s y) (hb : Below B w w') (hB : b < B) : RdAt w' b s y :=
  ⟨(hb.cell (p := ⟨b, 0, none⟩) hB).trans h.1, (hb.cell (p := ⟨b, 1, none⟩) hB).trans h.2.1, (hb.frozen (p := ⟨b, 0, none⟩) hB).trans h.2.2.1, (hb.frozen (p := ⟨b, 1, none⟩) hB).trans h.2.2.2⟩

/-- Behind a call only block b may hold something else. -/
def Touch (b : Nat) (w w' : World) : Prop := w'.heap.size = w.heap.size ∧ (∀ p : Addr, p.block ≠ b → w'.cell? p = w.cell? p) ∧ (∀ p : Addr, w'.frozen? p = w.frozen? p) ∧ Below b w w'
section
variable {b : Nat} {w w' w'' : World}
theorem Touch.refl : Touch b w w := ⟨rfl, fun _ _ => rfl, fun _ => rfl, Below.refl _ _⟩
theorem Touch.drawn (h : Drawn w w') : Touch b w w' := by
  obtain ⟨n, rfl⟩ := h
  exact ⟨rfl, fun _ _ => rfl, fun _ => rfl, below_draws _ _ _⟩
theorem Touch.set (h : Touch b w w') (o : Nat) (v : Value) : Touch b w (w'.setCell ⟨b, o, none⟩ v) :=
  ⟨by simpa using h.1, fun p hp => (World.cell?_setCell_other _ _ _ _ (fun e => hp (by rw [← e]))).trans (h.2.1 p hp), fun p => by simpa using h.2.2.1 p, h.2.2.2.setCell (Nat.le_refl _) _⟩
theorem Touch.trans (h : Touch b w w') (k : Touch b w' w'') : Touch b w w'' :=
  ⟨k.1.trans h.1, fun p hp => (k.2.1 p hp).trans (h.2.1 p hp), fun p => (k.2.2.1 p).trans (h.2.2.1 p), h.2.2.2.trans k.2.2.2⟩
theorem Touch.size (h : Touch b w w') : w'.heap.size = w.heap.size := h.1
theorem Touch.below (h : Touch b w w') {B : Nat} (hB : B ≤ b) : Below B w w' := h.2.2.2.mono hB
theorem Touch.other (h : Touch b w w') {c : Nat} {s : ByteArray} {y : Nat} (hc : c ≠ b) (hr : RdAt w c s y) : RdAt w' c s y :=
  ⟨(h.2.1 ⟨c, 0, none⟩ hc).trans hr.1, (h.2.1 ⟨c, 1, none⟩ hc).trans hr.2.1, (h.2.2.1 _).trans hr.2.2.1, (h.2.2.1 _).trans hr.2.2.2⟩
end

def NewOut (s : ByteArray) (w : World) (e : Ending) (w' : World) : Prop :=
  e = .returned (.pointer (some ⟨w.heap.size, 0, none⟩)) ∧ RdAt w' w.heap.size s 0 ∧ w'.heap.size = w.heap.size + 1 ∧ Below w.heap.size w w'
theorem New_any (s : ByteArray) (w : World) : Calls Try.prog 25 #[.string s] w (NewOut s w) := by
  go_enter Try.func25, Try.ntmps25
  go_wp2
  go_ret
  exact ⟨rfl, ⟨by go_cell, by go_cell, by go_simp, by go_simp⟩, by simp, by go_grown⟩

theorem Why_any (b : Nat) (s : ByteArray) (y : Nat) (w : World) (h : RdAt w b s y) :
    Calls Try.prog 30 #[.pointer (some ⟨b, 0, none⟩)] w fun e w' => e = .returned (.int .i64 y) ∧ w = w' := by
  obtain ⟨h0, h1, h2, h3⟩ := h
  go_enter Try.func30, Try.ntmps30
  go_wp2
  go_ret
  exact ⟨rfl, rfl⟩
theorem Why_nil (w : World) : Calls Try.prog 30 #[.pointer none] w fun e w' => e = .returned (.int .i64 7) ∧ w = w' := by
  go_enter Try.func30, Try.ntmps30
  go_wp2
  go_ret
  exact ⟨rfl, rfl⟩
theorem Left_any (b : Nat) (s : ByteArray) (y : Nat) (w : World) (h : RdAt w b s y) :
    Calls Try.prog 31 #[.pointer (some ⟨b, 0, none⟩)] w fun e w' => e = .returned (.int .i64 s.size) ∧ w = w' := by
  obtain ⟨h0, h1, h2, h3⟩ := h
  go_enter Try.func31, Try.ntmps31
  go_wp2
  go_ret
  exact ⟨rfl, rfl⟩
theorem Left_nil (w : World) : Calls Try.prog 31 #[.pointer none] w fun e w' => e = .returned (.int .i64 0) ∧ w = w' := by
  go_enter Try.func31, Try.ntmps31
  go_wp2
  go_ret
  exact ⟨rfl, rfl⟩

def NumOut (b : Nat) (r : Nat × ByteArray × Nat) (w : World) (e : Ending) (w' : World) : Prop :=
  e = .returned (.int .u64 r.1) ∧ RdAt w' b r.2.1 r.2.2 ∧ Touch b w w'
def WordOut (b : Nat) (r : ByteArray × ByteArray × Nat) (w : World) (e : Ending) (w' : World) : Prop :=
  e = .returned (.string r.1) ∧ RdAt w' b r.2.1 r.2.2 ∧ Touch b w w'

theorem RdAt.set1 {w w' : World} {b : Nat} {s : ByteArray} {y z : Nat} (h : RdAt w b s y) (hd : Drawn w w') : RdAt (w'.setCell ⟨b, 1, none⟩ (.int .i64 z)) b s z := by
  obtain ⟨n, rfl⟩ := hd
  obtain ⟨h0, h1, h2, h3⟩ := h
  refine ⟨(World.cell?_setCell_other _ _ _ _ (by simp)).trans h0, World.cell?_setCell_same _ _ _ h1, ?_, ?_⟩
  · simpa using h2
  · simpa using h3
theorem RdAt.set0 {w w' : World} {b : Nat} {s t : ByteArray} {y : Nat} (h : RdAt w b s y) (hd : Drawn w w') : RdAt (w'.setCell ⟨b, 0, none⟩ (.string t)) b t y := by
  obtain ⟨n, rfl⟩ := hd
  obtain ⟨h0, h1, h2, h3⟩ := h
  refine ⟨World.cell?_setCell_same _ _ _ h0, (World.cell?_setCell_other _ _ _ _ (by simp)).trans h1, ?_, ?_⟩
  · simpa using h2
  · simpa using h3

theorem Num_nil (w : World) : Calls Try.prog 27 #[.pointer none] w fun e w' => e = .returned (.int .u64 0) ∧ w = w' := by
  go_enter Try.func27, Try.ntmps27
  go_wp2_with fail
  refine (Why_nil _).mono ?_
  rintro e w' ⟨rfl, rfl⟩
  go_wp2
  go_ret
  exact ⟨rfl, rfl⟩
theorem Text_nil (w : World) : Calls Try.prog 29 #[.pointer none] w fun e w' => e = .returned (.string nob) ∧ w = w' := by
  go_enter Try.func29, Try.ntmps29
  go_wp2_with fail
  refine (Why_nil _).mono ?_
  rintro e w' ⟨rfl, rfl⟩
  go_wp2
  go_ret
  exact ⟨rfl, rfl⟩

set_option maxHeartbeats 1000000 in
theorem Num_any (b : Nat) (s : ByteArray) (y : Nat) (w : World) (h : RdAt w b s y) (hs : s.size ≤ maxLen) :
    Calls Try.prog 27 #[.pointer (some ⟨b, 0, none⟩)] w (NumOut b (numStep s y) w) := by
  have HW := Lib.hid (Why_any b s y w h)
  have HR := Lib.hid h
  obtain ⟨h0, h1, h2, h3⟩ := h
  by_cases hy : y = 0
  · subst hy
    have hc := cutNum_any s w hs
    have HT : Hid (numStep s 0 = if (numL s.data.toList).2.2 = 0 then ((numL s.data.toList).1, restB s (numL s.data.toList), 0) else (0, s, (numL s.data.toList).2.2)) := by rw [Hid, numStep, if_pos rfl]
    unfold CutOut at hc
    clear hs
    generalize restB s (numL s.data.toList) = t at *
    generalize numL s.data.toList = r at *
    obtain ⟨n, k, z⟩ := r
    simp only at hc HT
    have HC := Lib.hid hc
    clear hc
    by_cases hz : z = 0
    · have HS : Hid (numStep s 0 = (n, t, 0)) := by rw [Hid, HT.out, if_pos hz]
      clear HT
      subst hz
      go_enter Try.func27, Try.ntmps27
      go_wp2_with fail
      refine HW.out.mono ?_
      rintro e w' ⟨rfl, rfl⟩
      go_wp2_with fail
      refine HC.out.mono ?_
      rintro e w' ⟨rfl, hd⟩
      have HD := Lib.hid hd
      obtain ⟨q, rfl⟩ := hd
      go_wp2
      go_ret
      refine ⟨by rw [HS.out]; rfl, ?_, (Touch.drawn HD.out).set _ _⟩
      rw [HS.out]
      exact HR.out.set0 HD.out
    · have HS : Hid (numStep s 0 = (0, s, z)) := by rw [Hid, HT.out, if_neg hz]
      have hzb : ((z : Int) != 0) = true := by simp [hz]
      clear HT hz
      go_enter Try.func27, Try.ntmps27
      go_wp2_with fail
      refine HW.out.mono ?_
      rintro e w' ⟨rfl, rfl⟩
      go_wp2_with fail
      refine HC.out.mono ?_
      rintro e w' ⟨rfl, hd⟩
      have HD := Lib.hid hd
      obtain ⟨q, rfl⟩ := hd
      go_wp2
      go_ret
      refine ⟨by rw [HS.out]; rfl, ?_, (Touch.drawn HD.out).set _ _⟩
      rw [HS.out]
      exact HR.out.set1 HD.out
  · have HS : Hid (numStep s y = (0, s, y)) := by rw [Hid, numStep, if_neg hy]
    have hyb : ((y : Int) != 0) = true := by simp [hy]
    clear hy
    go_enter Try.func27, Try.ntmps27
    go_wp2_with fail
    refine HW.out.mono ?_
    rintro e w' ⟨rfl, rfl⟩
    go_wp2
    go_ret
    refine ⟨by rw [HS.out]; rfl, ?_, Touch.refl⟩
    rw [HS.out]
    exact HR.out

set_option maxHeartbeats 1000000 in
theorem Text_any (b : Nat) (s : ByteArray) (y : Nat) (w : World) (h : RdAt w b s y) (hs : s.size ≤ maxLen) :
    Calls Try.prog 29 #[.pointer (some ⟨b, 0, none⟩)] w (WordOut b (textStep s y) w) := by
  have HW := Lib.hid (Why_any b s y w h)
  have HR := Lib.hid h
  obtain ⟨h0, h1, h2, h3⟩ := h
  by_cases hy : y = 0
  · subst hy
    have hc := cutText_any s w hs
    have HT : Hid (textStep s 0 = if (textR s).2.2 = 0 then ((textR s).1, (textR s).2.1, 0) else (nob, s, (textR s).2.2)) := by rw [Hid, textStep, if_pos rfl]
    unfold TextOut at hc
    clear hs
    generalize textR s = r at *
    obtain ⟨n, t, z⟩ := r
    simp only at hc HT
    have HC := Lib.hid hc
    clear hc
    by_cases hz : z = 0
    · have HS : Hid (textStep s 0 = (n, t, 0)) := by rw [Hid, HT.out, if_pos hz]
      clear HT
      subst hz
      go_enter Try.func29, Try.ntmps29
      go_wp2_with fail
      refine HW.out.mono ?_
      rintro e w' ⟨rfl, rfl⟩
      go_wp2_with fail
      refine HC.out.mono ?_
      rintro e w' ⟨rfl, hd⟩
      have HD := Lib.hid hd
      obtain ⟨q, rfl⟩ := hd
      go_wp2
      go_ret
      refine ⟨by rw [HS.out]; rfl, ?_, (Touch.drawn HD.out).set _ _⟩
      rw [HS.out]
      exact HR.out.set0 HD.out
    · have HS : Hid (textStep s 0 = (nob, s, z)) := by rw [Hid, HT.out, if_neg hz]
      have hzb : ((z : Int) != 0) = true := by simp [hz]
      clear HT hz
      go_enter Try.func29, Try.ntmps29
      go_wp2_with fail
      refine HW.out.mono ?_
      rintro e w' ⟨rfl, rfl⟩
      go_wp2_with fail
      refine HC.out.mono ?_
      rintro e w' ⟨rfl, hd⟩
      have HD := Lib.hid hd
      obtain ⟨q, rfl⟩ := hd
      go_wp2
      go_ret
      refine ⟨by rw [HS.out]; rfl, ?_, (Touch.drawn HD.out).set _ _⟩
      rw [HS.out]
      exact HR.out.set1 HD.out
  · have HS : Hid (textStep s y = (nob, s, y)) := by rw [Hid, textStep, if_neg hy]
    have hyb : ((y : Int) != 0) = true := by simp [hy]
    clear hy
    go_enter Try.func29, Try.ntmps29
    go_wp2_with fail
    refine HW.out.mono ?_
    rintro e w' ⟨rfl, rfl⟩
    go_wp2
    go_ret
    refine ⟨by rw [HS.out]; rfl, ?_, Touch.refl⟩
    rw [HS.out]
    exact HR.out

end Go.Proofs.Ytbedlaggmlckdaa
