/- A heap in memory: replace, take and top, by contract. -/
import Derived.Test.YtajmnhnepoomjaaHeapPutG
namespace Go.Proofs.Ytajmnhnepoomjaa
open Go.RowKit Go.Shelf Go.Sort

set_option maxRecDepth 100000 in
set_option maxHeartbeats 4000000 in
theorem replaceG_any {b : Nat} {A : Option Addr} {c : Nat} {M : List SpotT} {W : World} (h : HeapAt W b fvG A c M) (s : SpotT) (h0 : 0 < M.length) (hn : M.length ≤ 100000) (hu : HeapOK gtS M) :
    Calls Try.prog 124 #[.pointer (some ⟨b, 0, none⟩), sptV s] W (HeapG b A c (M.set 0 s) W) := by
  obtain ⟨g, rfl, hg, hgw⟩ := ownPos h.row h0
  obtain ⟨⟨xa, xb⟩, xc⟩ := s
  unfold sptV
  simp only
  go_enter Try.func124, Try.ntmps124
  go_upto_region 1 with (fail)
  have b0 : (W.alloc (.cells #[.int .u64 xa, .int .u64 xb, .int .i64 xc] 62)).cell? ⟨W.heap.size, 0, none⟩ = some (.int .u64 xa) := by go_cell
  have b1 : (W.alloc (.cells #[.int .u64 xa, .int .u64 xb, .int .i64 xc] 62)).cell? ⟨W.heap.size, 1, none⟩ = some (.int .u64 xb) := by go_cell
  have b2 : (W.alloc (.cells #[.int .u64 xa, .int .u64 xb, .int .i64 xc] 62)).cell? ⟨W.heap.size, 2, none⟩ = some (.int .i64 xc) := by go_cell
  have hX := below_new3 W (.cells #[.int .u64 xa, .int .u64 xb, .int .i64 xc] 62)
  have hh := h.later hX
  have hK := Lib.hid (Kp.of_below (S := BlkH b (some ⟨g, 0, none⟩)) hX)
  clear h hX
  generalize W.alloc (.cells #[.int .u64 xa, .int .u64 xb, .int .i64 xc] 62) = X at *
  generalize W.heap.size = bx at *
  obtain ⟨n, hnl⟩ : ∃ n, M.length = n := ⟨_, rfl⟩
  have c0 := hh.h0
  have hA := ArrS.of_own hh.row
  have hrow := hh.row
  rw [hnl] at c0 hA h0 hn hrow
  have a0 := hA.c0 0 h0
  have a1 := hA.c1 0 h0
  have a2 := hA.c2 0 h0
  have v0 := hA.fr 0 (by omega)
  have v1 := hA.fr 1 (by omega)
  have v2 := hA.fr 2 (by omega)
  have HS := Lib.hid (set3_head c0 hh.h1 hh.f0 hrow hnl h0 ((xa, xb), xc)).drew
  have HK := Lib.hid (hK.out.trans (((((Kp.refl (S := BlkH b (some ⟨g, 0, none⟩)) (w := X)).set (o := 0 * 3) (.inr rfl) (.int .u64 xa)).set (o := 0 * 3 + 1) (.inr rfl) (.int .u64 xb)).set (o := 0 * 3 + 2) (.inr rfl) (.int .i64 xc)).drew))
  have HD := Lib.hid (DownBut.start (M' := M.set 0 ((xa, xb), xc)) hu (by simp) (fun j j0 hj => by rw [spAt_set _ _ _ _ (by omega), if_neg (by omega)]))
  have HN := Lib.hid hnl
  clear hA hh hu hrow hnl hK
  have k1 : (0 : Int) < (n : Int) := by omega
  simp only [Nat.zero_mul, Nat.zero_add] at a0 a1 a2 HS HK
  go_region
  change Exit.then _ _ Exit.normal _ (World.drew _)
  generalize World.drew _ = V at *
  go_wp2_with fail
  refine (sinkG_any HS.out (by simp [HN.out]; omega) HD.out).mono ?_
  rintro e W' ⟨rfl, M', h1, h2, h3, h4⟩
  have HF := Lib.hid (show HeapG b (some ⟨g, 0, none⟩) c (M.set 0 ((xa, xb), xc)) W (.returned (.tuple #[])) W' from ⟨rfl, M', h1, h2, h3, HK.out.trans h4⟩)
  clear h1 h2 h3 h4 HK HS HD
  go_wp2
  exact bodyPost_end (results_none rfl _ _ _) rfl HF.out

set_option maxRecDepth 100000 in
set_option maxHeartbeats 4000000 in
theorem takeG_any {b : Nat} {A : Option Addr} {c : Nat} {M : List SpotT} {W : World} (h : HeapAt W b fvG A c M) (h0 : 0 < M.length) (hn : M.length ≤ 100000) (hu : HeapOK gtS M) :
    Calls Try.prog 120 #[.pointer (some ⟨b, 0, none⟩)] W (HeapG b A c (dropS M) W) := by
  obtain ⟨g, rfl, hg, hgw⟩ := ownPos h.row h0
  obtain ⟨m, hnl⟩ : ∃ m, M.length = m + 1 := ⟨M.length - 1, by omega⟩
  have hmc : m + 1 ≤ c := by
    obtain ⟨_, _, e, hc, _⟩ := ownSlice h.row
    injection e with _ _ e
    omega
  have c0 := h.h0
  have f0 := h.f0
  have hA := ArrS.of_own h.row
  have hrow := h.row
  have hD := DownBut.start (M' := dropS M) hu (by rw [dropS_len]; omega) (fun j j0 hj => dropS_at M j j0 (by rw [dropS_len] at hj; exact hj))
  have hl2 := dropS_len M
  have hdr : dropS M = (M.set 0 (spAt M m)).take m := by unfold dropS; rw [hnl, Nat.add_sub_cancel]
  rw [hnl] at c0 hA h0 hn hrow hl2
  have a0 := hA.c0 m (by omega)
  have a1 := hA.c1 m (by omega)
  have a2 := hA.c2 m (by omega)
  have d0 := hA.c0 0 (by omega)
  have d1 := hA.c1 0 (by omega)
  have d2 := hA.c2 0 (by omega)
  have v0 := hA.fr 0 (by omega)
  have v1 := hA.fr 1 (by omega)
  have v2 := hA.fr 2 (by omega)
  have HS := Lib.hid (set3_head c0 h.h1 f0 hrow hnl (by omega) (spAt M m)).drew
  have HK := Lib.hid (((((Kp.refl (S := BlkH b (some ⟨g, 0, none⟩)) (w := W)).set (o := 0 * 3) (.inr rfl) (.int .u64 (spAt M m).1.1)).set (o := 0 * 3 + 1) (.inr rfl) (.int .u64 (spAt M m).1.2)).set (o := 0 * 3 + 2) (.inr rfl) (.int .i64 (spAt M m).2)).drew)
  have HD := Lib.hid hD
  have HDR := Lib.hid hdr
  have HL2 := Lib.hid hl2
  have HN := Lib.hid hnl
  clear hA h hu hrow hnl hD hdr hl2 f0
  generalize spAt M m = x at *
  generalize spAt M 0 = y at *
  obtain ⟨⟨xa, xb⟩, xc⟩ := x
  obtain ⟨⟨ya, yb⟩, yc⟩ := y
  have k1 : (0 : Int) < (m : Int) + 1 := by omega
  have k2 : (m : Int) < (m : Int) + 1 := by omega
  have k3 : (0 : Int) ≤ (m : Int) := by omega
  have k4 : (m : Int) ≤ (c : Int) := by omega
  simp only [Nat.zero_mul, Nat.zero_add] at a0 a1 a2 d0 d1 d2 HS HK
  go_enter Try.func120, Try.ntmps120
  go_wp2_with fail
  go_region
  change Exit.then _ _ Exit.normal _ (World.drew _)
  generalize World.drew _ = V at *
  have c0 := HS.out.h0
  rw [show (M.set 0 ((xa, xb), xc)).length = m + 1 by simp [HN.out]] at c0
  have f0 := HS.out.f0
  have HS2 := Lib.hid (head_heap HS.out (show (M.set 0 ((xa, xb), xc)).length = m + 1 by simp [HN.out]) (Nat.le_succ m))
  have HK2 := Lib.hid (HK.out.set (o := 0) (.inl ⟨rfl, rfl⟩) (.slice (some ⟨g, 0, none⟩) m c))
  rw [← HDR.out] at HS2
  clear HS HK
  go_upto_region 3 with (fail)
  generalize V.setCell ⟨b, 0, none⟩ (.slice (some ⟨g, 0, none⟩) m c) = V2 at *
  clear c0 f0
  go_wp2_with fail
  refine (sinkG_any HS2.out (by rw [HL2.out]; omega) HD.out).mono ?_
  rintro e W' ⟨rfl, M', h1, h2, h3, h4⟩
  have HF := Lib.hid (show HeapG b (some ⟨g, 0, none⟩) c (dropS M) W (.returned (.tuple #[])) W' from ⟨rfl, M', h1, h2, h3, HK2.out.trans h4⟩)
  clear h1 h2 h3 h4 HK2 HS2 HD
  go_wp2
  exact bodyPost_end (results_none rfl _ _ _) rfl HF.out

end Go.Proofs.Ytajmnhnepoomjaa
