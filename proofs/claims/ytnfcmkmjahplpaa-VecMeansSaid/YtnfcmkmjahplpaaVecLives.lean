/- The document's own answers for vec, as its laws ask for them. -/
import Derived.Test.YtnfcmkmjahplpaaMean
import Derived.Test.YtnfcmkmjahplpaaVecLess
namespace Go.Proofs.Ytnfcmkmjahplpaa
open Go.RowKit Go.Shelf

abbrev i32c (xs : List Int) : Array Value := (xs.map (Value.int .i32)).toArray
def Fits (xs : List Int) : Bool := decide (xs.length ≤ 100) && xs.all fun z => decide (-2147483648 ≤ z) && decide (z ≤ 2147483647)
theorem Fits.len {xs : List Int} (h : Fits xs = true) : xs.length ≤ 9223372036854775807 := by
  simp [Fits] at h; omega
theorem Fits.all {xs : List Int} (h : Fits xs = true) : ∀ z ∈ xs, -2147483648 ≤ z ∧ z ≤ 2147483647 := by
  simp [Fits] at h; exact h.2

theorem vec1 (w : World) (xs : List Int) (hx : Fits xs = true) : Vec (w.alloc (.cells (i32c xs) 21)) (some ⟨w.heap.size, 0, none⟩) xs := Vec.new w _ xs (Fits.len hx) (Fits.all hx) _ rfl
theorem vec2 (w : World) (xs ys : List Int) (hx : Fits xs = true) (hy : Fits ys = true) : Vec ((w.alloc (.cells (i32c xs) 21)).alloc (.cells (i32c ys) 21)) (some ⟨w.heap.size, 0, none⟩) xs ∧
    Vec ((w.alloc (.cells (i32c xs) 21)).alloc (.cells (i32c ys) 21)) (some ⟨w.heap.size + 1, 0, none⟩) ys ∧ Below w.heap.size w ((w.alloc (.cells (i32c xs) 21)).alloc (.cells (i32c ys) 21)) := by
  refine ⟨(vec1 w xs hx).alloc _, ?_, ((Below.refl _ w).alloc (Nat.le_refl _) _).alloc (by simp) _⟩
  have := vec1 (w.alloc (.cells (i32c xs) 21)) ys hy
  rwa [World.size_alloc] at this

theorem Dist_lit (xs ys : List Int) (r : Int) (hx : Fits xs = true) (hy : Fits ys = true) (hr : ((satN (distN xs ys (max xs.length ys.length)) : Nat) : Int) = r) (w0 w : World) (hb : Below w0.heap.size w0 w) :
    Calls Try.prog 11 #[.slice (some ⟨w.heap.size, 0, none⟩) xs.length xs.length, .slice (some ⟨w.heap.size + 1, 0, none⟩) ys.length ys.length] ((w.alloc (.cells (i32c xs) 21)).alloc (.cells (i32c ys) 21))
      fun e w' => e = .returned (.int .u64 r) ∧ Below w0.heap.size w0 w' := by
  obtain ⟨h1, h2, h3⟩ := vec2 w xs ys hx hy
  refine (Dist_v h1 h2 (Below.refl _ _) _ _ _ _ rfl rfl).mono fun e w' h => ⟨by rw [h.1, hr], ?_⟩
  exact Below.next (Below.next hb h3) h.2
theorem Dot_lit (xs ys : List Int) (r : Int) (hx : Fits xs = true) (hy : Fits ys = true) (hr : wrap64 (dotZ xs ys (max xs.length ys.length)) = r) (w0 w : World) (hb : Below w0.heap.size w0 w) :
    Calls Try.prog 15 #[.slice (some ⟨w.heap.size, 0, none⟩) xs.length xs.length, .slice (some ⟨w.heap.size + 1, 0, none⟩) ys.length ys.length] ((w.alloc (.cells (i32c xs) 21)).alloc (.cells (i32c ys) 21))
      fun e w' => e = .returned (.int .i64 r) ∧ Below w0.heap.size w0 w' := by
  obtain ⟨h1, h2, h3⟩ := vec2 w xs ys hx hy
  refine (Dot_v h1 h2 (Below.refl _ _) _ _ _ _ rfl rfl).mono fun e w' h => ⟨by rw [h.1, hr], ?_⟩
  exact Below.next (Below.next hb h3) h.2
theorem Less_lit (xs ys : List Int) (r : Bool) (hx : Fits xs = true) (hy : Fits ys = true) (hr : decide (cmpL xs ys < 0) = r) (w0 w : World) (hb : Below w0.heap.size w0 w) :
    Calls Try.prog 12 #[.slice (some ⟨w.heap.size, 0, none⟩) xs.length xs.length, .slice (some ⟨w.heap.size + 1, 0, none⟩) ys.length ys.length] ((w.alloc (.cells (i32c xs) 21)).alloc (.cells (i32c ys) 21))
      fun e w' => e = .returned (.bool r) ∧ Below w0.heap.size w0 w' := by
  obtain ⟨h1, h2, h3⟩ := vec2 w xs ys hx hy
  refine (Less_v h1 h2 (Below.refl _ _) _ _).mono fun e w' h => ⟨by rw [h.1, hr], ?_⟩
  rw [← h.2]
  exact Below.next hb h3
theorem Dist_nil_lit (xs : List Int) (r : Int) (hx : Fits xs = true) (hr : ((satN (distN xs [] (max xs.length 0)) : Nat) : Int) = r) (w0 w : World) (hb : Below w0.heap.size w0 w) :
    Calls Try.prog 11 #[.slice (some ⟨w.heap.size, 0, none⟩) xs.length xs.length, .slice none 0 0] (w.alloc (.cells (i32c xs) 21))
      fun e w' => e = .returned (.int .u64 r) ∧ Below w0.heap.size w0 w' := by
  refine (Dist_v (vec1 w xs hx) (Vec.nil (A := none)) (Below.refl _ _) _ 0 _ 0 rfl rfl).mono fun e w' h => ⟨by rw [h.1, hr], ?_⟩
  exact Below.next (Below.next hb ((Below.refl _ w).alloc (Nat.le_refl _) _)) h.2
theorem Check_lit (xs : List Int) (dim r : Int) (hx : Fits xs = true) (hr : chkN xs dim = r) (w0 w : World) (hb : Below w0.heap.size w0 w) :
    Calls Try.prog 14 #[.slice (some ⟨w.heap.size, 0, none⟩) xs.length xs.length, .int .i64 dim] (w.alloc (.cells (i32c xs) 21))
      fun e w' => e = .returned (.int .i64 r) ∧ Below w0.heap.size w0 w' := by
  refine (Check_v (vec1 w xs hx) (Below.refl _ _) _ dim).mono fun e w' h => ⟨by rw [h.1, hr], ?_⟩
  exact Below.next (Below.next hb ((Below.refl _ w).alloc (Nat.le_refl _) _)) h.2
theorem Check_nil_lit (w0 w : World) (hb : Below w0.heap.size w0 w) :
    Calls Try.prog 14 #[.slice none 0 0, .int .i64 0] w fun e w' => e = .returned (.int .i64 1) ∧ Below w0.heap.size w0 w' := by
  refine (Check_v (w := w) (Vec.nil (A := none)) (Below.refl _ _) 0 0).mono fun e w' h => ⟨h.1, Below.next hb h.2⟩

theorem rows2 (w : World) (h1 h2 : Hdr) (T : TypeId) : Rd hdrV (w.alloc (.cells #[hdrV h1, hdrV h2] T)) (w.alloc (.cells #[hdrV h1, hdrV h2] T)).heap.size (some ⟨w.heap.size, 0, none⟩) [h1, h2] := by
  intro k z hz
  refine ⟨w.heap.size, 0, rfl, by simp, ?_⟩
  rw [Nat.zero_add]
  have e := World.alloc_heap_new w (.cells #[hdrV h1, hdrV h2] T)
  unfold World.cell?
  simp only [e]
  rcases k with _ | _ | k
  · simp at hz; subst hz; rfl
  · simp at hz; subst hz; rfl
  · simp at hz

/-- The mean of two vectors that are written out. -/
theorem Mean2_any (w0 w : World) (h1 h2 : Hdr) (v1 : Vec w h1.1 h1.2.1) (v2 : Vec w h2.1 h2.2.1) (hl : h1.2.1.length ≤ 1000000) (hb : Below w0.heap.size w0 w) :
    Calls Try.prog 8 #[.slice (some ⟨w.heap.size, 0, none⟩) 2 2] (w.alloc (.cells #[hdrV h1, hdrV h2] 24)) fun e w' => Below w0.heap.size w0 w' ∧
      MeanOut [h1.2.1, h2.2.1] (w.alloc (.cells #[hdrV h1, hdrV h2] 24)) e w' := by
  refine (Mean_any _ [h1, h2] 2 _ (rows2 w h1 h2 _) (by simp) (fun h hh => ?_) hl).mono fun e w' h => ⟨Below.next (Below.next hb ((Below.refl _ w).alloc (Nat.le_refl _) _)) h.1, h⟩
  simp at hh
  rcases hh with rfl | rfl
  · exact v1.alloc _
  · exact v2.alloc _

theorem mean_good (w0 w : World) : Calls Try.prog 8 #[.slice (some ⟨w.heap.size + 1 + 1, 0, none⟩) 2 2]
    (((w.alloc (.cells #[.int .i32 1] 21)).alloc (.cells #[.int .i32 (-2)] 21)).alloc (.cells #[.slice (some ⟨w.heap.size, 0, none⟩) 1 1, .slice (some ⟨w.heap.size + 1, 0, none⟩) 1 1] 24))
    fun e w' => (Below w0.heap.size w0 w → Below w0.heap.size w0 w') ∧ ∃ M c, e = .returned (.tuple #[.slice M 1 c, .int .i64 0]) ∧ Vec w' M [-1] := by
  obtain ⟨v1, v2, hb⟩ := vec2 w [1] [-2] (by decide) (by decide)
  have h := Mean2_any w ((w.alloc (.cells (i32c [1]) 21)).alloc (.cells (i32c [-2]) 21)) (some ⟨w.heap.size, 0, none⟩, [1], 1) (some ⟨w.heap.size + 1, 0, none⟩, [-2], 1) v1 v2 (by show 1 ≤ 1000000; decide) hb
  simp only [World.size_alloc] at h
  refine Calls.mono h ?_
  rintro e w' ⟨h1, _, h2⟩
  refine ⟨fun hw => Below.next hw h1, ?_⟩
  rcases h2 with ⟨hn, _⟩ | ⟨_, M, c, rfl, hv⟩
  · exact absurd (show Alike [[1], [-2]] from ⟨by simp, by simp⟩) hn
  · rw [show meanL ([[1], [-2]].headD []).length [[1], [-2]] = [-1] from by decide +kernel] at hv
    exact ⟨M, c, rfl, hv⟩
theorem mean_bad (w0 w : World) (O : Obj) : Calls Try.prog 8 #[.slice (some ⟨w.heap.size + 1 + 1, 0, none⟩) 2 2]
    (((w.alloc (.cells #[.int .i32 1] 21)).alloc O).alloc (.cells #[.slice (some ⟨w.heap.size, 0, none⟩) 1 1, .slice (some ⟨w.heap.size + 1, 0, none⟩) 0 0] 24))
    fun e w' => (Below w0.heap.size w0 w → Below w0.heap.size w0 w') ∧ e = .returned (.tuple #[.slice none 0 0, .int .i64 7]) := by
  have v1 := (vec1 w [1] (by decide)).alloc O
  have hb : Below w.heap.size w ((w.alloc (.cells (i32c [1]) 21)).alloc O) := ((Below.refl _ w).alloc (Nat.le_refl _) _).alloc (by simp) _
  have h := Mean2_any w ((w.alloc (.cells (i32c [1]) 21)).alloc O) (some ⟨w.heap.size, 0, none⟩, [1], 1) (some ⟨w.heap.size + 1, 0, none⟩, [], 0) v1 Vec.nil (by show 1 ≤ 1000000; decide) hb
  simp only [World.size_alloc] at h
  refine Calls.mono h ?_
  rintro e w' ⟨h1, _, h2⟩
  refine ⟨fun hw => Below.next hw h1, ?_⟩
  rcases h2 with ⟨_, rfl⟩ | ⟨hn, _⟩
  · rfl
  · have := hn.2 [] (by simp)
    simp at this

set_option maxHeartbeats 1000000 in
theorem vec_lives_any (w : World) : Calls Try.prog 7 #[] w fun e w' => e = .returned (.bool true) ∧ Below w.heap.size w w' := by
  have G := Lib.hid (mean_good w)
  have D1 := Lib.hid (Dist_lit [1, 2] [4, 6] 25 (by decide) (by decide) (by decide))
  have D2 := Lib.hid (Dist_nil_lit [3] 9 (by decide) (by decide))
  have D3 := Lib.hid (Dist_lit [-2147483648, -2147483648] [2147483647, 2147483647] 18446744073709551615 (by decide) (by decide) (by decide +kernel))
  have P := Lib.hid (Dot_lit [2, 3] [5, -1] 7 (by decide) (by decide) (by decide +kernel))
  have C1 := Lib.hid (Check_lit [16777216] 1 0 (by decide) (by decide))
  have C2 := Lib.hid (Check_lit [16777217] 1 1 (by decide) (by decide))
  have C3 := Lib.hid Check_nil_lit
  have L1 := Lib.hid (Less_lit [1] [1, 0] true (by decide) (by decide) (by decide))
  have L2 := Lib.hid (Less_lit [2] [1, 0] false (by decide) (by decide) (by decide))
  go_enter Try.func7, Try.ntmps7
  go_wp2_with fail
  refine Calls.mono (G.out _) ?_
  rintro e w1 ⟨hb, M, c, rfl, hv⟩
  have hb1 := Lib.hid (hb (Below.refl _ _))
  clear hb G
  go_wp2_with fail
  refine Calls.mono (mean_bad w1 _ _) ?_
  rintro e w2 ⟨hb', rfl⟩
  have hb := hb' (Below.refl _ _)
  clear hb'
  go_wp2_with fail
  refine Calls.mono (D1.out w1 _ hb) ?_
  clear hb D1
  rintro e w2 ⟨rfl, hb⟩
  go_wp2_with fail
  refine Calls.mono (D2.out w1 _ hb) ?_
  clear hb D2
  rintro e w2 ⟨rfl, hb⟩
  go_wp2_with fail
  refine Calls.mono (D3.out w1 _ hb) ?_
  clear hb D3
  rintro e w2 ⟨rfl, hb⟩
  go_wp2_with fail
  refine Calls.mono (P.out w1 _ hb) ?_
  clear hb P
  rintro e w2 ⟨rfl, hb⟩
  go_wp2_with fail
  have HS := Lib.hid (Same_v ((hv.below hb).alloc _) (vec1 w2 [-1] (by decide)) (Below.refl _ _) c 1)
  rw [show (decide ([-1] = [-1])) = true from by decide] at HS
  refine Calls.mono HS.out ?_
  clear HS hv
  rintro e w3 ⟨rfl, hd⟩
  have hb3 : Below w1.heap.size w1 w3 := Below.next (Below.next hb ((Below.refl _ w2).alloc (Nat.le_refl _) _)) (hd.below _)
  clear hb hd
  go_wp2_with fail
  refine Calls.mono (C1.out w1 _ hb3) ?_
  clear hb3 C1
  rintro e w2 ⟨rfl, hb⟩
  go_wp2_with fail
  refine Calls.mono (C2.out w1 _ hb) ?_
  clear hb C2
  rintro e w2 ⟨rfl, hb⟩
  go_wp2_with fail
  refine Calls.mono (C3.out w1 _ hb) ?_
  clear hb C3
  rintro e w2 ⟨rfl, hb⟩
  go_wp2_with fail
  refine Calls.mono (L1.out w1 _ hb) ?_
  clear hb L1
  rintro e w2 ⟨rfl, hb⟩
  go_wp2_with fail
  refine Calls.mono (L2.out w1 _ hb) ?_
  clear hb L2
  rintro e w2 ⟨rfl, hb⟩
  go_wp2
  go_ret
  exact ⟨rfl, Below.next hb1.out hb⟩

end Go.Proofs.Ytnfcmkmjahplpaa
