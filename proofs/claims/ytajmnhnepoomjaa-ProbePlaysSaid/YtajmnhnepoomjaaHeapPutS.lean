/- A heap in memory: put, by contract. -/
import Derived.Test.YtajmnhnepoomjaaHeapSinkS
import Derived.Deep.AppendLies
import Derived.Deep.RegionLaw
namespace Go.Proofs.Ytajmnhnepoomjaa
open Go.RowKit Go.Shelf Go.Sort

/-- A heap that is one again, with these spots, its row where it was or in new memory. -/
def HeapS2 (b : Nat) (A : Option Addr) (M : List SpotT) (W : World) (e : Ending) (W' : World) : Prop :=
  e = .returned (.tuple #[]) ∧ ∃ A' c' M', HeapAt W' b fvS A' c' M' ∧ M'.Perm M ∧ HeapOK ltS M' ∧ Kp (BlkH b A) W W' ∧ SameOrNew A W.heap.size A'

set_option maxRecDepth 100000 in
set_option maxHeartbeats 4000000 in
theorem putS_any {b : Nat} {A : Option Addr} {c : Nat} {M : List SpotT} {W : World} (h : HeapAt W b fvS A c M) (s : SpotT) (hn : M.length < 100000) (hu : HeapOK ltS M) :
    Calls Try.prog 123 #[.pointer (some ⟨b, 0, none⟩), sptV s] W (HeapS2 b A (M ++ [s]) W) := by
  have mixed : Try.prog.follows .mixedOrders = true := by kernel_rfl
  obtain ⟨i0, hi0, hz0, hz1, hz2⟩ := info_parts info_spot
  have c0 := h.h0
  have c1 := h.h1
  have f0 := h.f0
  have hbw := h.lt
  have hown := h.row
  have HU := Lib.hid hu
  have HH := Lib.hid h
  obtain ⟨n, hnl⟩ : ∃ n, M.length = n := ⟨_, rfl⟩
  rw [hnl] at c0 hown hn
  have HN := Lib.hid hnl
  clear h hu hnl
  obtain ⟨⟨xa, xb⟩, xc⟩ := s
  unfold sptV
  simp only
  go_enter Try.func123, Try.ntmps123
  go_upto_region 1 with (fail)
  have hne : some b ≠ (Value.slice A n c).ownBlock := fun e => by have := (hown.lt b e.symm).1; omega
  have hown1 := ((hown.alloc (.cells #[.int .u64 xa, .int .u64 xb, .int .i64 xc] 62)).alloc (.cells #[.int .u64 xa, .int .u64 xb, .int .i64 xc] 62)).drew
  have hsz : ((W.alloc (.cells #[.int .u64 xa, .int .u64 xb, .int .i64 xc] 62)).alloc (.cells #[.int .u64 xa, .int .u64 xb, .int .i64 xc] 62)).drew.heap.size = W.heap.size + 2 := by simp
  have C0 := Lib.hid (put_cell (a := ⟨b, 0, none⟩) c0 hbw (.cells #[.int .u64 xa, .int .u64 xb, .int .i64 xc] 62) (.cells #[.int .u64 xa, .int .u64 xb, .int .i64 xc] 62))
  have C1 := Lib.hid (put_cell (a := ⟨b, 1, none⟩) c1 hbw (.cells #[.int .u64 xa, .int .u64 xb, .int .i64 xc] 62) (.cells #[.int .u64 xa, .int .u64 xb, .int .i64 xc] 62))
  have F0 := Lib.hid (put_frozen (a := ⟨b, 0, none⟩) f0 hbw (.cells #[.int .u64 xa, .int .u64 xb, .int .i64 xc] 62) (.cells #[.int .u64 xa, .int .u64 xb, .int .i64 xc] 62))
  have HB := Lib.hid (show Below W.heap.size W ((W.alloc (.cells #[.int .u64 xa, .int .u64 xb, .int .i64 xc] 62)).alloc (.cells #[.int .u64 xa, .int .u64 xb, .int .i64 xc] 62)).drew from (((Below.refl _ W).alloc (Nat.le_refl _) _).alloc (by simp) _).drew)
  have HW := Lib.hid hown1
  have HZ := Lib.hid hsz
  have HNE := Lib.hid hne
  clear hown1 hsz hown hne
  go_region_law (refine step_append_lies _ (by rfl) _ _ _ (by rfl) (b + 1) 62 i0 _ 3 24 Try.underlying44 hi0 hz0 hz1 hz2 rfl (by omega) (.slice A n c) n (cellsS M) (by rfl) HW.out ⟨W.heap.size + 1, 0, none⟩ 1 1 [.int .u64 xa, .int .u64 xb, .int .i64 xc] (by rfl) (by rfl) (World.news_of_block (cs := #[.int .u64 xa, .int .u64 xb, .int .i64 xc]) (t := 62) (fr := (0, 0)) (put_new _ _ _)) (by simp [Value.oneCell']) (by omega) (by unfold maxLen; omega) (by omega) (by rw [HZ.out]; omega) (W.heap.size + 2) HZ.out ?_; intro gg cap w2 hown2 hgrow hat hlt2; have q0 := hgrow.cell C0.out HNE.out; have q1 := (World.frozen?_of_block (a := ⟨b, 0, none⟩) (hgrow.block b (by rw [HZ.out]; omega) HNE.out)).trans F0.out; have HG := Lib.hid hgrow; have HO := Lib.hid hown2; have HA := Lib.hid hat; clear hgrow hown2 hat)
  all_goals
    obtain ⟨hh, hk, hs⟩ := put_heap (s := ((xa, xb), xc)) HB.out HZ.out C1.out hbw q0 q1 HNE.out HW.out HG.out HO.out HA.out HN.out
    clear C0 C1 F0 HB HW HZ HNE HG HO HA q0 q1 c0 c1 f0 hlt2 HH
    generalize w2.setCell ⟨b, 0, none⟩ (.slice (some ⟨gg, 0, none⟩) (n + 1) cap) = X at *
    have q0 := hh.h0
    rw [show (M ++ [((xa, xb), xc)]).length = n + 1 by simp [HN.out]] at q0
    have HH := Lib.hid hh
    have HK := Lib.hid hk
    have HS := Lib.hid hs
    clear hh hk hs
    go_wp2_with fail
    have hn1 : M.length = n := HN.out
    refine (riseS_any HH.out n (by simp [hn1]) (by simp [hn1]; omega) (by have := UpBut.start HU.out ((xa, xb), xc); rw [hn1] at this; exact this)).mono ?_
    rintro e W' ⟨rfl, M', h1, h2, h3, h4⟩
    have HF := Lib.hid (show HeapS2 b A (M ++ [((xa, xb), xc)]) W (.returned (.tuple #[])) W' from ⟨rfl, _, _, M', h1, h2, h3, HK.out.later h4 (by
      rintro j i hj (e | e)
      · exact .inl e
      · rcases HS.out j e with h | h
        · exact .inr h
        · omega), HS.out⟩)
    clear h1 h2 h3 h4 HK HS HH q0 hn1
    go_wp2
    exact bodyPost_end (results_none rfl _ _ _) rfl HF.out

end Go.Proofs.Ytajmnhnepoomjaa
