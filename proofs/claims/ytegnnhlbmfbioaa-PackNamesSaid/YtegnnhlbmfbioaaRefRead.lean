/- The contracts of the document's own answers for pack, second part: what words are of. -/
import Derived.Test.YtegnnhlbmfbioaaRefNames
namespace Go.Proofs.Ytegnnhlbmfbioaa
open Go.RowKit

theorem ref_ways' (x : Int) (h0 : 0 ≤ x) : Ways (refS (x % 8192) (x / 8192)) (refD x) x (x % 8192) (x / 8192) := by
  unfold Ways refS refD
  by_cases h2 : x % 8192 < 0 ∨ 4096 < x % 8192 ∨ x / 8192 < 0 ∨ 1099511627775 < x / 8192
  · exact .inl ⟨if_pos h2, if_pos (by omega)⟩
  · have e1 : x % 8192 + x / 8192 * 8192 = x := by omega
    exact .inr (.inr ⟨by rw [if_neg h2, e1], by rw [if_neg (by omega)]⟩)

set_option maxHeartbeats 1000000 in
theorem refEntry_any (x : Int) (w : World) (h0 : 0 ≤ x) (h1 : x ≤ 18446744073709551615) :
    Calls Try.prog 29 #[.int .u64 x] w (ThreeOut (entD x) w) := by
  have hw := ent_ways x h0
  rw [show (2 : Int) ^ 3 = 8 from rfl] at hw
  rcases hw with ⟨hs, hd⟩ | ⟨v, hs, hne, hd⟩ | ⟨hs, hd⟩
  · have HS := Lib.hid hs
    have HD := Lib.hid hd
    clear hs hd
    go_enter Try.func29, Try.ntmps29
    go_wp2_with fail
    refine (refPutEntry_any (x % 8192) (x / 8192 % 8) _).mono ?_
    rintro e w2 ⟨rfl, hb2⟩
    rw [HS.out]
    go_wp2
    go_ret3
    exact ⟨by rw [HD.out]; rfl, hb2⟩
  · have HS := Lib.hid hs
    have HD := Lib.hid hd
    have hb : ((v : Int) != x) = true := by rw [bne_iff_ne]; exact hne
    clear hs hd hne
    go_enter Try.func29, Try.ntmps29
    go_wp2_with fail
    refine (refPutEntry_any (x % 8192) (x / 8192 % 8) _).mono ?_
    rintro e w2 ⟨rfl, hb2⟩
    rw [HS.out]
    go_wp2
    go_ret3
    exact ⟨by rw [HD.out]; rfl, hb2⟩
  · have HS := Lib.hid hs
    have HD := Lib.hid hd
    clear hs hd
    go_enter Try.func29, Try.ntmps29
    go_wp2_with fail
    refine (refPutEntry_any (x % 8192) (x / 8192 % 8) _).mono ?_
    rintro e w2 ⟨rfl, hb2⟩
    rw [HS.out]
    go_wp2
    go_ret3
    exact ⟨by rw [HD.out]; rfl, hb2⟩

set_option maxHeartbeats 1000000 in
theorem refRing_any (x : Int) (w : World) (h0 : 0 ≤ x) (h1 : x ≤ 18446744073709551615) :
    Calls Try.prog 27 #[.int .u64 x] w (ThreeOut (ringD x) w) := by
  have hw := ring_ways x h0
  rw [show (2 : Int) ^ 13 = 8192 from rfl] at hw
  rcases hw with ⟨hs, hd⟩ | ⟨v, hs, hne, hd⟩ | ⟨hs, hd⟩
  · have HS := Lib.hid hs
    have HD := Lib.hid hd
    clear hs hd
    go_enter Try.func27, Try.ntmps27
    go_wp2_with fail
    refine (refPutRing_any (x % 8192 - 1) (x / 8192 % 8192 - 1) _).mono ?_
    rintro e w2 ⟨rfl, hb2⟩
    rw [HS.out]
    go_wp2
    go_ret3
    exact ⟨by rw [HD.out]; rfl, hb2⟩
  · have HS := Lib.hid hs
    have HD := Lib.hid hd
    have hb : ((v : Int) != x) = true := by rw [bne_iff_ne]; exact hne
    clear hs hd hne
    go_enter Try.func27, Try.ntmps27
    go_wp2_with fail
    refine (refPutRing_any (x % 8192 - 1) (x / 8192 % 8192 - 1) _).mono ?_
    rintro e w2 ⟨rfl, hb2⟩
    rw [HS.out]
    go_wp2
    go_ret3
    exact ⟨by rw [HD.out]; rfl, hb2⟩
  · have HS := Lib.hid hs
    have HD := Lib.hid hd
    clear hs hd
    go_enter Try.func27, Try.ntmps27
    go_wp2_with fail
    refine (refPutRing_any (x % 8192 - 1) (x / 8192 % 8192 - 1) _).mono ?_
    rintro e w2 ⟨rfl, hb2⟩
    rw [HS.out]
    go_wp2
    go_ret3
    exact ⟨by rw [HD.out]; rfl, hb2⟩

set_option maxHeartbeats 1000000 in
theorem refRef_any (x : Int) (w : World) (h0 : 0 ≤ x) (h1 : x ≤ 18446744073709551615) :
    Calls Try.prog 25 #[.int .u64 x] w (RefOut (refD x) w) := by
  rcases ref_ways' x h0 with ⟨hs, hd⟩ | ⟨v, hs, hne, hd⟩ | ⟨hs, hd⟩
  · have HS := Lib.hid hs
    have HD := Lib.hid hd
    clear hs hd
    go_enter Try.func25, Try.ntmps25
    go_wp2_with fail
    refine (refPutRef_any (x % 8192) (x / 8192) _).mono ?_
    rintro e w2 ⟨rfl, hb2⟩
    rw [HS.out]
    have z0 : w2.cell? ⟨w.heap.size, 0, none⟩ = some (.int .i64 0) := (hb2.cell (p := ⟨w.heap.size, 0, none⟩) (by go_size)).trans (by go_cell)
    have z1 : w2.cell? ⟨w.heap.size, 1, none⟩ = some (.int .i64 0) := (hb2.cell (p := ⟨w.heap.size, 1, none⟩) (by go_size)).trans (by go_cell)
    have f0 : w2.frozen? ⟨w.heap.size, 0, none⟩ = false := (hb2.frozen (p := ⟨w.heap.size, 0, none⟩) (by go_size)).trans (by go_simp)
    have f1 : w2.frozen? ⟨w.heap.size, 1, none⟩ = false := (hb2.frozen (p := ⟨w.heap.size, 1, none⟩) (by go_size)).trans (by go_simp)
    have r0 : w2.cell? ⟨w.heap.size + 1, 0, none⟩ = some (.int .i64 (x % 8192)) := (hb2.cell (p := ⟨w.heap.size + 1, 0, none⟩) (by go_size)).trans (by go_cell)
    have r1 : w2.cell? ⟨w.heap.size + 1, 1, none⟩ = some (.int .i64 (x / 8192)) := (hb2.cell (p := ⟨w.heap.size + 1, 1, none⟩) (by go_size)).trans (by go_cell)
    have hbb : Below w.heap.size w w2 := Below.next (by go_grown) hb2
    clear hb2
    go_wp2
    have k0 : ∀ u : Value, (w2.setCell ⟨w.heap.size, 0, none⟩ u).cell? ⟨w.heap.size, 0, none⟩ = some u := fun u => World.cell?_setCell_same _ _ _ z0
    have k1 : ∀ u u' : Value, ((w2.setCell ⟨w.heap.size, 0, none⟩ u).setCell ⟨w.heap.size, 1, none⟩ u').cell? ⟨w.heap.size, 1, none⟩ = some u' := fun u u' => World.cell?_setCell_same _ _ _ ((World.cell?_setCell_other _ _ _ _ (by simp)).trans z1)
    refine bodyPost_ret (v := .tuple #[.agg #[.int .i64 0, .int .i64 0], .int .i64 6]) (by simp [results, Try.results25, go_sem, k0, k1]) rfl ⟨by rw [HD.out], ?_⟩
    exact (hbb.setCell (Nat.le_refl _) _).setCell (Nat.le_refl _) _
  · have HS := Lib.hid hs
    have HD := Lib.hid hd
    have hb : ((v : Int) != x) = true := by rw [bne_iff_ne]; exact hne
    clear hs hd hne
    go_enter Try.func25, Try.ntmps25
    go_wp2_with fail
    refine (refPutRef_any (x % 8192) (x / 8192) _).mono ?_
    rintro e w2 ⟨rfl, hb2⟩
    rw [HS.out]
    have z0 : w2.cell? ⟨w.heap.size, 0, none⟩ = some (.int .i64 0) := (hb2.cell (p := ⟨w.heap.size, 0, none⟩) (by go_size)).trans (by go_cell)
    have z1 : w2.cell? ⟨w.heap.size, 1, none⟩ = some (.int .i64 0) := (hb2.cell (p := ⟨w.heap.size, 1, none⟩) (by go_size)).trans (by go_cell)
    have f0 : w2.frozen? ⟨w.heap.size, 0, none⟩ = false := (hb2.frozen (p := ⟨w.heap.size, 0, none⟩) (by go_size)).trans (by go_simp)
    have f1 : w2.frozen? ⟨w.heap.size, 1, none⟩ = false := (hb2.frozen (p := ⟨w.heap.size, 1, none⟩) (by go_size)).trans (by go_simp)
    have r0 : w2.cell? ⟨w.heap.size + 1, 0, none⟩ = some (.int .i64 (x % 8192)) := (hb2.cell (p := ⟨w.heap.size + 1, 0, none⟩) (by go_size)).trans (by go_cell)
    have r1 : w2.cell? ⟨w.heap.size + 1, 1, none⟩ = some (.int .i64 (x / 8192)) := (hb2.cell (p := ⟨w.heap.size + 1, 1, none⟩) (by go_size)).trans (by go_cell)
    have hbb : Below w.heap.size w w2 := Below.next (by go_grown) hb2
    clear hb2
    go_wp2
    have k0 : ∀ u : Value, (w2.setCell ⟨w.heap.size, 0, none⟩ u).cell? ⟨w.heap.size, 0, none⟩ = some u := fun u => World.cell?_setCell_same _ _ _ z0
    have k1 : ∀ u u' : Value, ((w2.setCell ⟨w.heap.size, 0, none⟩ u).setCell ⟨w.heap.size, 1, none⟩ u').cell? ⟨w.heap.size, 1, none⟩ = some u' := fun u u' => World.cell?_setCell_same _ _ _ ((World.cell?_setCell_other _ _ _ _ (by simp)).trans z1)
    refine bodyPost_ret (v := .tuple #[.agg #[.int .i64 0, .int .i64 0], .int .i64 6]) (by simp [results, Try.results25, go_sem, k0, k1]) rfl ⟨by rw [HD.out], ?_⟩
    exact (hbb.setCell (Nat.le_refl _) _).setCell (Nat.le_refl _) _
  · have HS := Lib.hid hs
    have HD := Lib.hid hd
    clear hs hd
    go_enter Try.func25, Try.ntmps25
    go_wp2_with fail
    refine (refPutRef_any (x % 8192) (x / 8192) _).mono ?_
    rintro e w2 ⟨rfl, hb2⟩
    rw [HS.out]
    have z0 : w2.cell? ⟨w.heap.size, 0, none⟩ = some (.int .i64 0) := (hb2.cell (p := ⟨w.heap.size, 0, none⟩) (by go_size)).trans (by go_cell)
    have z1 : w2.cell? ⟨w.heap.size, 1, none⟩ = some (.int .i64 0) := (hb2.cell (p := ⟨w.heap.size, 1, none⟩) (by go_size)).trans (by go_cell)
    have f0 : w2.frozen? ⟨w.heap.size, 0, none⟩ = false := (hb2.frozen (p := ⟨w.heap.size, 0, none⟩) (by go_size)).trans (by go_simp)
    have f1 : w2.frozen? ⟨w.heap.size, 1, none⟩ = false := (hb2.frozen (p := ⟨w.heap.size, 1, none⟩) (by go_size)).trans (by go_simp)
    have r0 : w2.cell? ⟨w.heap.size + 1, 0, none⟩ = some (.int .i64 (x % 8192)) := (hb2.cell (p := ⟨w.heap.size + 1, 0, none⟩) (by go_size)).trans (by go_cell)
    have r1 : w2.cell? ⟨w.heap.size + 1, 1, none⟩ = some (.int .i64 (x / 8192)) := (hb2.cell (p := ⟨w.heap.size + 1, 1, none⟩) (by go_size)).trans (by go_cell)
    have hbb : Below w.heap.size w w2 := Below.next (by go_grown) hb2
    clear hb2
    go_wp2
    have k0 : ∀ u : Value, (w2.setCell ⟨w.heap.size, 0, none⟩ u).cell? ⟨w.heap.size, 0, none⟩ = some u := fun u => World.cell?_setCell_same _ _ _ z0
    have k1 : ∀ u u' : Value, ((w2.setCell ⟨w.heap.size, 0, none⟩ u).setCell ⟨w.heap.size, 1, none⟩ u').cell? ⟨w.heap.size, 1, none⟩ = some u' := fun u u' => World.cell?_setCell_same _ _ _ ((World.cell?_setCell_other _ _ _ _ (by simp)).trans z1)
    refine bodyPost_ret (v := .tuple #[.agg #[.int .i64 (x % 8192), .int .i64 (x / 8192)], .int .i64 0]) (by simp [results, Try.results25, go_sem, k0, k1]) rfl ⟨by rw [HD.out], ?_⟩
    exact (hbb.setCell (Nat.le_refl _) _).setCell (Nat.le_refl _) _

end Go.Proofs.Ytegnnhlbmfbioaa
