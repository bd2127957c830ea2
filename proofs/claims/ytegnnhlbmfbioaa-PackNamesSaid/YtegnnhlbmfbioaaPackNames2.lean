/- The law PackNames: its walk: whatever the word, the ref and the two numbers, the answer is 'true' and old memory stays. -/
import Derived.Test.YtegnnhlbmfbioaaPackLives
import Derived.Test.YtegnnhlbmfbioaaRefRead
namespace Go.Proofs.Ytegnnhlbmfbioaa
open Go.RowKit

set_option maxRecDepth 100000 in
set_option maxHeartbeats 2000000 in
theorem PackNames_walk (x rs rg a b : Int) (w : World) (h0 : 0 ≤ x) (h1 : x ≤ 18446744073709551615) (hrg0 : -9223372036854775808 ≤ rg) (hrg1 : rg ≤ 9223372036854775807) :
    Calls Try.prog 4 #[.int .u64 x, .agg #[.int .i64 rs, .int .i64 rg], .int .i64 a, .int .i64 b] w fun e w' =>
      e = .returned (.bool true) ∧ Below w.heap.size w w' := by
  go_enter Try.func4, Try.ntmps4
  go_wp2_with fail
  refine (PutRef_any rs rg _ hrg0 hrg1).mono ?_
  rintro e w1 ⟨rfl, hb⟩
  have hB1 : Below w.heap.size w w1 := Below.next (by go_grown) hb
  have x0 : w1.cell? ⟨w.heap.size, 0, none⟩ = some (.int .i64 rs) := (hb.cell (p := ⟨w.heap.size, 0, none⟩) (by go_size)).trans (by go_cell)
  have x1 : w1.cell? ⟨w.heap.size, 1, none⟩ = some (.int .i64 rg) := (hb.cell (p := ⟨w.heap.size, 1, none⟩) (by go_size)).trans (by go_cell)
  clear hb
  go_wp2_with fail
  refine (refPutRef_any rs rg _).mono ?_
  rintro e w2 ⟨rfl, hb⟩
  have hB2 := Below.next hB1 hb
  clear hb hB1 x0 x1
  generalize refS rs rg = R1
  go_wp2_with fail
  refine (PutRing_any a b _).mono ?_
  rintro e w3 ⟨rfl, hb⟩
  have hB3 := Below.next hB2 hb
  clear hb hB2
  go_wp2_with fail
  refine (refPutRing_any a b _).mono ?_
  rintro e w4 ⟨rfl, hb⟩
  have hB4 := Below.next hB3 hb
  clear hb hB3
  generalize ringS a b = R2
  go_wp2_with fail
  refine (PutEntry_any a b _).mono ?_
  rintro e w5 ⟨rfl, hb⟩
  have hB5 := Below.next hB4 hb
  clear hb hB4
  go_wp2_with fail
  refine (refPutEntry_any a b _).mono ?_
  rintro e w6 ⟨rfl, hb⟩
  have hB6 := Below.next hB5 hb
  clear hb hB5
  generalize entS a b = R3
  go_wp2_with fail
  refine (Ref_any x _ h0 h1).mono ?_
  rintro e w7 ⟨rfl, hb⟩
  have hB7 := Below.next hB6 hb
  clear hb hB6
  go_wp2_with fail
  refine (refRef_any x _ h0 h1).mono ?_
  rintro e w8 ⟨rfl, hb⟩
  have hB8 := Below.next hB7 (Below.next (by go_grown) hb)
  generalize refD x = R4 at *
  have s0 : w8.cell? ⟨w7.heap.size, 0, none⟩ = some (.int .i64 R4.1) := (hb.cell (p := ⟨w7.heap.size, 0, none⟩) (by go_size)).trans (by go_cell)
  have s1 : w8.cell? ⟨w7.heap.size, 1, none⟩ = some (.int .i64 R4.2.1) := (hb.cell (p := ⟨w7.heap.size, 1, none⟩) (by go_size)).trans (by go_cell)
  have sl : w7.heap.size < w8.heap.size := by have := hb.size; simp at this; omega
  clear hb hB7
  go_wp2_with fail
  refine (Ring_any x _ h0 h1).mono ?_
  rintro e w9 ⟨rfl, hb⟩
  have hB9 := Below.next hB8 (Below.next (by go_grown) hb)
  have u0 : w9.cell? ⟨w7.heap.size, 0, none⟩ = some (.int .i64 R4.1) := (hb.cell (p := ⟨w7.heap.size, 0, none⟩) (by go_size)).trans (by go_cell)
  have u1 : w9.cell? ⟨w7.heap.size, 1, none⟩ = some (.int .i64 R4.2.1) := (hb.cell (p := ⟨w7.heap.size, 1, none⟩) (by go_size)).trans (by go_cell)
  have v0 : w9.cell? ⟨w8.heap.size, 0, none⟩ = some (.int .i64 R4.1) := (hb.cell (p := ⟨w8.heap.size, 0, none⟩) (by go_size)).trans (by go_cell)
  have v1 : w9.cell? ⟨w8.heap.size, 1, none⟩ = some (.int .i64 R4.2.1) := (hb.cell (p := ⟨w8.heap.size, 1, none⟩) (by go_size)).trans (by go_cell)
  have vl : w8.heap.size < w9.heap.size := by have := hb.size; simp at this; omega
  have ul : w7.heap.size < w9.heap.size := Nat.lt_trans sl vl
  clear hb hB8 s0 s1 sl
  go_wp2_with fail
  refine (refRing_any x _ h0 h1).mono ?_
  rintro e w10 ⟨rfl, hb⟩
  have hB10 := Below.next hB9 hb
  generalize ringD x = R5
  have s0 := (hb.cell (p := ⟨w7.heap.size, 0, none⟩) ul).trans u0
  have s1 := (hb.cell (p := ⟨w7.heap.size, 1, none⟩) ul).trans u1
  have t0 := (hb.cell (p := ⟨w8.heap.size, 0, none⟩) vl).trans v0
  have t1 := (hb.cell (p := ⟨w8.heap.size, 1, none⟩) vl).trans v1
  have sl := Nat.lt_of_lt_of_le ul hb.size
  have tl := Nat.lt_of_lt_of_le vl hb.size
  clear hb hB9 u0 u1 v0 v1 ul vl
  go_wp2_with fail
  refine (Entry_any x _ h0 h1).mono ?_
  rintro e w11 ⟨rfl, hb⟩
  have hB11 := Below.next hB10 hb
  have u0 := (hb.cell (p := ⟨w7.heap.size, 0, none⟩) sl).trans s0
  have u1 := (hb.cell (p := ⟨w7.heap.size, 1, none⟩) sl).trans s1
  have v0 := (hb.cell (p := ⟨w8.heap.size, 0, none⟩) tl).trans t0
  have v1 := (hb.cell (p := ⟨w8.heap.size, 1, none⟩) tl).trans t1
  have ul := Nat.lt_of_lt_of_le sl hb.size
  have vl := Nat.lt_of_lt_of_le tl hb.size
  clear hb hB10 s0 s1 t0 t1 sl tl
  go_wp2_with fail
  refine (refEntry_any x _ h0 h1).mono ?_
  rintro e w12 ⟨rfl, hb⟩
  have hB12 := Below.next hB11 hb
  generalize entD x = R6
  have s0 := (hb.cell (p := ⟨w7.heap.size, 0, none⟩) ul).trans u0
  have s1 := (hb.cell (p := ⟨w7.heap.size, 1, none⟩) ul).trans u1
  have t0 := (hb.cell (p := ⟨w8.heap.size, 0, none⟩) vl).trans v0
  have t1 := (hb.cell (p := ⟨w8.heap.size, 1, none⟩) vl).trans v1
  have sl := Nat.lt_of_lt_of_le ul hb.size
  have tl := Nat.lt_of_lt_of_le vl hb.size
  clear hb hB11 u0 u1 v0 v1 ul vl
  go_wp2_with fail
  refine (lives_any _).mono ?_
  rintro e w13 ⟨rfl, hb⟩
  have hB13 := Below.next hB12 hb
  have u0 := (hb.cell (p := ⟨w7.heap.size, 0, none⟩) sl).trans s0
  have u1 := (hb.cell (p := ⟨w7.heap.size, 1, none⟩) sl).trans s1
  have v0 := (hb.cell (p := ⟨w8.heap.size, 0, none⟩) tl).trans t0
  have v1 := (hb.cell (p := ⟨w8.heap.size, 1, none⟩) tl).trans t1
  clear hb hB12 s0 s1 t0 t1 sl tl
  go_wp2
  go_ret
  exact ⟨rfl, hB13⟩

end Go.Proofs.Ytegnnhlbmfbioaa
