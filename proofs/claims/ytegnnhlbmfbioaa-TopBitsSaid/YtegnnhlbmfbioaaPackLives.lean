/- The law's own question of the answers that the document gives (lives), for package pack: the answer is 'true'. -/
import Derived.Test.YtegnnhlbmfbioaaPackRead
import Derived.Test.YtegnnhlbmfbioaaSame
namespace Go.Proofs.Ytegnnhlbmfbioaa
open Go.RowKit

/-- A list of two comes back in memory, or none. -/
def ListOut (xs : List Int) (n : Nat) (why : Int) (w : World) (e : Ending) (w' : World) : Prop :=
  ∃ A d, e = .returned (.tuple #[.slice A n d, .int .i64 why]) ∧ Rd (Value.int .u64) w' w'.heap.size A xs ∧ Below w.heap.size w w'

theorem Fields_at (x m n : Int) (xs : List Int) (k : Nat) (why : Int) (b c : Nat) (w : World) (h0 : 0 ≤ x) (h1 : x ≤ 18446744073709551615) (hx : fldL x [m, n] = xs) (hk : xs.length = k) (hy : cw 64 [m, n] = why) (hb : b < w.heap.size)
    (c0 : w.cell? ⟨b, 0, none⟩ = some (.int .i64 m)) (c1 : w.cell? ⟨b, 1, none⟩ = some (.int .i64 n)) :
    Calls Try.prog 9 #[.int .u64 x, .slice (some ⟨b, 0, none⟩) 2 c] w (ListOut xs k why w) := by
  subst hx hk hy
  exact (Fields_any x (some ⟨b, 0, none⟩) [m, n] c w h0 h1 (Rd.two hb c0 c1) (by simp)).mono fun _ _ h => h

theorem Join_at (x y m n : Int) (r : Int × Int) (b b' d c : Nat) (w : World) (hr : joinL [x, y] [m, n] = r) (hb : b < w.heap.size) (hb' : b' < w.heap.size)
    (h0 : w.cell? ⟨b, 0, none⟩ = some (.int .u64 x)) (h1 : w.cell? ⟨b, 1, none⟩ = some (.int .u64 y)) (h0' : w.cell? ⟨b', 0, none⟩ = some (.int .i64 m)) (h1' : w.cell? ⟨b', 1, none⟩ = some (.int .i64 n))
    (hx0 : 0 ≤ x) (hx1 : x ≤ 18446744073709551615) (hy0 : 0 ≤ y) (hy1 : y ≤ 18446744073709551615) :
    Calls Try.prog 11 #[.slice (some ⟨b, 0, none⟩) 2 d, .slice (some ⟨b', 0, none⟩) 2 c] w fun e w' =>
      e = .returned (.tuple #[.int .u64 r.1, .int .i64 r.2]) ∧ Below w.heap.size w w' := by
  subst hr
  exact (Join_any (some ⟨b, 0, none⟩) [x, y] d (some ⟨b', 0, none⟩) [m, n] c w (Rd.two hb h0 h1) (Rd.two hb' h0' h1') (by simp) (by simp)
    (by intro z hz; simp at hz; rcases hz with rfl | rfl <;> omega)).mono fun _ _ h => ⟨h.1, h.2.below _⟩

set_option maxRecDepth 100000 in
set_option maxHeartbeats 2000000 in
theorem lives_any (w : World) : Calls Try.prog 8 #[] w fun e w' => e = .returned (.bool true) ∧ Below w.heap.size w w' := by
  go_enter Try.func8, Try.ntmps8
  go_wp2_with fail
  refine Calls.mono (Fields_at 4660 4 8 [4, 35] 2 0 _ _ _ (by omega) (by omega) (by decide) (by decide) (by decide) (by go_size) (by go_cell) (by go_cell)) ?_
  rintro e w1 ⟨A1, d1, rfl, hr1, hb1⟩
  have hB1 : Below w.heap.size w w1 := Below.next (by go_grown) hb1
  have hR1 := hr1
  clear hb1 hr1
  go_wp2_with fail
  refine Calls.mono (Fields_at 1 60 5 [] 0 6 _ _ _ (by omega) (by omega) (by decide) (by decide) (by decide) (by go_size) (by go_cell) (by go_cell)) ?_
  rintro e w2 ⟨A2, d2, rfl, _, hb⟩
  have K2 : Below w1.heap.size w1 w2 := Below.next (by go_grown) hb
  have hR2 := (hR1.below K2).more K2.size
  have hB2 := Below.next hB1 K2
  clear hb K2 hR1 hB1
  go_wp2_with fail
  refine Calls.mono (Join_at 4 35 4 8 (564, 0) _ _ _ _ _ (by decide) (by go_size) (by go_size) (by go_cell) (by go_cell) (by go_cell) (by go_cell) (by omega) (by omega) (by omega) (by omega)) ?_
  rintro e w3 ⟨rfl, hb⟩
  have K3 : Below w2.heap.size w2 w3 := Below.next (by go_grown) hb
  have hR3 := (hR2.below K3).more K3.size
  have hB3 := Below.next hB2 K3
  clear hb K3 hR2 hB2
  go_wp2_with fail
  refine Calls.mono (Join_at 16 0 4 8 (0, 6) _ _ _ _ _ (by decide) (by go_size) (by go_size) (by go_cell) (by go_cell) (by go_cell) (by go_cell) (by omega) (by omega) (by omega) (by omega)) ?_
  rintro e w4 ⟨rfl, hb⟩
  have K4 : Below w3.heap.size w3 w4 := Below.next (by go_grown) hb
  have hR4 := (hR3.below K4).more K4.size
  have hB4 := Below.next hB3 K4
  clear hb K4 hR3 hB3
  go_wp2_with fail
  refine Calls.mono (PutRing_any (-1) 0 _) ?_
  rintro e w5 ⟨rfl, hb⟩
  rw [show ringS (-1) 0 = (8192, 0) from by decide]
  have K5 : Below w4.heap.size w4 w5 := Below.next (by go_grown) hb
  have hR5 := (hR4.below K5).more K5.size
  have hB5 := Below.next hB4 K5
  clear hb K5 hR4 hB4
  go_wp2_with fail
  refine Calls.mono (Ring_any 8192 _ (by omega) (by omega)) ?_
  rintro e w6 ⟨rfl, hb⟩
  rw [show ringD 8192 = (-1, 0, 0) from by decide]
  have K6 : Below w5.heap.size w5 w6 := Below.next (by go_grown) hb
  have hR6 := (hR5.below K6).more K6.size
  have hB6 := Below.next hB5 K6
  clear hb K6 hR5 hB5
  go_wp2_with fail
  refine Calls.mono (PutRef_any 5 2 _ (by omega) (by omega)) ?_
  rintro e w7 ⟨rfl, hb⟩
  rw [show refS 5 2 = (16389, 0) from by decide]
  have K7 : Below w6.heap.size w6 w7 := Below.next (by go_grown) hb
  have hR7 := (hR6.below K7).more K7.size
  have hB7 := Below.next hB6 K7
  clear hb K7 hR6 hB6
  go_wp2_with fail
  refine Calls.mono (Ref_any 16389 _ (by omega) (by omega)) ?_
  rintro e w8 ⟨rfl, hb⟩
  rw [show refD 16389 = (5, 2, 0) from by decide]
  have K8 : Below w7.heap.size w7 w8 := Below.next (by go_grown) hb
  have hR8 := (hR7.below K8).more K8.size
  have hB8 := Below.next hB7 K8
  clear hb K8 hR7 hB7
  go_wp2_with fail
  refine (PutEntry_any 3 7 _).mono ?_
  rintro e w9 ⟨rfl, hb⟩
  rw [show entS 3 7 = (57347, 0) from by decide]
  have K9 : Below w8.heap.size w8 w9 := Below.next (by go_grown) hb
  have hR9 := (hR8.below K9).more K9.size
  have hB9 := Below.next hB8 K9
  have r0 : w9.cell? ⟨w8.heap.size, 0, none⟩ = some (.int .i64 5) := (hb.cell (p := ⟨w8.heap.size, 0, none⟩) (by go_size)).trans (by go_cell)
  have r1 : w9.cell? ⟨w8.heap.size, 1, none⟩ = some (.int .i64 2) := (hb.cell (p := ⟨w8.heap.size, 1, none⟩) (by go_size)).trans (by go_cell)
  have rl : w8.heap.size < w9.heap.size := by have := hb.size; simp at this; omega
  clear hb K9 hR8 hB8
  go_wp2_with fail
  refine (Entry_any 57347 _ (by omega) (by omega)).mono ?_
  rintro e w10 ⟨rfl, hb⟩
  rw [show entD 57347 = (3, 7, 0) from by decide]
  have hR10 := (hR9.below hb).more hb.size
  have hB10 := Below.next hB9 hb
  have s0 := (hb.cell (p := ⟨w8.heap.size, 0, none⟩) rl).trans r0
  have s1 := (hb.cell (p := ⟨w8.heap.size, 1, none⟩) rl).trans r1
  have sl := Nat.lt_of_lt_of_le rl hb.size
  clear hb hR9 hB9 r0 r1 rl
  go_wp2_with fail
  refine (PutEntry_any 3 8 _).mono ?_
  rintro e w11 ⟨rfl, hb⟩
  rw [show entS 3 8 = (0, 6) from by decide]
  have hR11 := (hR10.below hb).more hb.size
  have hB11 := Below.next hB10 hb
  have r0 := (hb.cell (p := ⟨w8.heap.size, 0, none⟩) sl).trans s0
  have r1 := (hb.cell (p := ⟨w8.heap.size, 1, none⟩) sl).trans s1
  have rl := Nat.lt_of_lt_of_le sl hb.size
  clear hb hR10 hB10 s0 s1 sl
  go_wp2_with fail
  refine Calls.mono (Same_refl _ _ [4, 35] _ _ _ ((hR11.below (by go_grown)).more (by go_size)) (Rd.two (by go_size) (by go_cell) (by go_cell)) (by simp)) ?_
  rintro e w12 ⟨rfl, hd⟩
  have hB12 : Below w.heap.size w w12 := Below.next hB11 (Below.next (by go_grown) (hd.below _))
  have s0 : w12.cell? ⟨w8.heap.size, 0, none⟩ = some (.int .i64 5) := (hd.cell _).trans ((World.cell?_alloc_lt _ _ _ rl).trans r0)
  have s1 : w12.cell? ⟨w8.heap.size, 1, none⟩ = some (.int .i64 2) := (hd.cell _).trans ((World.cell?_alloc_lt _ _ _ rl).trans r1)
  clear hd hR11 hB11 r0 r1 rl
  go_wp2_with fail
  refine (Zig_any (-1) _ (by omega) (by omega)).mono ?_
  rintro e w' ⟨rfl, rfl⟩
  rw [show zigS (-1) = 1 from by decide]
  go_wp2_with fail
  refine (Zig_any 3 _ (by omega) (by omega)).mono ?_
  rintro e w' ⟨rfl, rfl⟩
  rw [show zigS 3 = 6 from by decide]
  go_wp2_with fail
  refine (Zag_any 3 _ (by omega) (by omega)).mono ?_
  rintro e w' ⟨rfl, rfl⟩
  rw [show zagS 3 = -2 from by decide]
  go_wp2
  go_ret
  exact ⟨rfl, hB12⟩

end Go.Proofs.Ytegnnhlbmfbioaa
