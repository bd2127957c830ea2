/- The iterators of vec.Mean: slices.Values over vectors, slices.All over components and over sums. -/
import Derived.Test.YtnfcmkmjahplpaaVecTop
namespace Go.Proofs.Ytnfcmkmjahplpaa
open Go.RowKit Go.Shelf
attribute [local go_sem] Oper.semAt_some wide_fn wide_depth

/-- A vector as it comes among others: where it lies, its components, its capacity. -/
abbrev Hdr := Option Addr × List Int × Nat
def hdrV (h : Hdr) : Value := .slice h.1 h.2.1.length h.2.2
def Hdr.zero : Hdr := (none, [], 0)
def hdrAt (hs : List Hdr) (k : Nat) : Hdr := hs.getD k Hdr.zero
theorem hdrAt_lt {hs : List Hdr} {k : Nat} (h : k < hs.length) : hs[k]? = some (hdrAt hs k) := by
  rw [hdrAt, List.getD_eq_getElem?_getD, List.getElem?_eq_getElem h]; rfl
theorem hdrAt_mem {hs : List Hdr} {k : Nat} (h : k < hs.length) : hdrAt hs k ∈ hs := List.mem_of_getElem? (hdrAt_lt h)

set_option maxHeartbeats 400000 in
theorem valuesR_any (A : Option Addr) (la ca : Nat) (w : World) :
    Calls Try.prog 17 #[.slice A la ca] w fun e w' => e = .returned (.func (.func 28) #[] #[.pointer (some ⟨w.heap.size, 0, none⟩)]) ∧ w' = w.alloc (.cells #[.slice A la ca] 22) := by
  go_enter Try.func17, Try.ntmps17
  go_wp2
  go_ret
  exact ⟨by simp, rfl⟩

set_option maxRecDepth 100000 in
set_option maxHeartbeats 2000000 in
theorem valuesR1_in (m : Nat) (l n₀ Bs : Nat) (A : Option Addr) (zs : List Hdr) (ca : Nat) (hl : zs.length ≤ 9223372036854775807) (J Jx : List (Pl zs.length) → World → Prop)
    (hY : ∀ pre x W, J pre W → pre.length < zs.length → YieldAt Fence.wide (m - 1) Try.prog l #[hdrV (hdrAt zs x.1)] W fun e W' =>
      (e = .returned (.bool true) ∧ J (pre ++ [x]) W' ∧ Below n₀ W W') ∨ (e = .returned (.bool false) ∧ Jx (pre ++ [x]) W'))
    (W : World) (hA : Rd hdrV W n₀ A zs) (hBs : W.cell? ⟨Bs, 0, none⟩ = some (.slice A zs.length ca)) (h0 : J [] W) :
    CallsIn Fence.wide m Try.prog 28 #[.func (.yield l) #[] #[], .pointer (some ⟨Bs, 0, none⟩)] W fun e W' => (∃ v, e = .returned v) ∧
      ((∃ pre, UpTo zs.length pre ∧ J pre W') ∨ (∃ pre, (∃ k, k ≤ zs.length ∧ UpTo k pre) ∧ Jx pre W')) := by
  refine callsIn_of_wp Try.func28 rfl trivial ?_ rfl
  simp only [Try.ntmps28, List.size_toArray, List.length_cons, List.length_nil, Nat.reduceAdd, Nat.reduceSub, Array.replicate_succ, Array.replicate_zero, List.push_toArray, List.append_toArray, List.nil_append, List.cons_append]
  gi_wp2
  gi_loopw [7] (fun i wr => ∃ (k : Nat) (pre : List (Pl zs.length)), k ≤ zs.length ∧ i = .int .i64 k ∧ UpTo k pre ∧ J pre wr ∧ Hid (Rd hdrV wr n₀ A zs))
    (fun i _ => zs.length - (intOf i).toNat)
  case atStart => exact ⟨0, [], Nat.zero_le _, rfl, UpTo.nil, h0, hA⟩
  case round =>
    clear h0 hA hBs
    obtain ⟨k, pre, hk, rfl, hU, hJs, HA⟩ := hrel
    by_cases hlt : k < zs.length
    · obtain ⟨fn, tmps, assign, body, hyl, hR⟩ := hY pre ⟨k, hlt⟩ wr hJs (by rw [hU.len]; exact hlt)
      dsimp only at hyl
      obtain ⟨b, off, rfl, hb, hc⟩ := HA.out k _ (hdrAt_lt hlt)
      unfold hdrV at hyl hc
      have hkl : (k : Int) < (zs.length : Int) := by omega
      have hk0 : (0 : Int) ≤ (k : Int) := by omega
      gi_wp2
      refine hR.mono ?_
      rintro e W3 (⟨rfl, hJ3, hk3⟩ | ⟨rfl, hJx3⟩)
      · have HA3 : Hid (Rd hdrV W3 n₀ (some ⟨b, off, none⟩) zs) := HA.out.below hk3
        gi_wp2
        go_roundw
        case rel => exact ⟨k + 1, pre ++ [⟨k, hlt⟩], by omega, by go_num, hU.snoc hlt, hJ3, HA3⟩
        case measure => simp [intOf]; omega
      · gi_wp2
        refine bodyPost_ret (results_none rfl _ _ _) rfl ?_
        exact ⟨⟨_, rfl⟩, .inr ⟨pre ++ [⟨k, hlt⟩], ⟨k + 1, by omega, hU.snoc hlt⟩, hJx3⟩⟩
    · have hke : k = zs.length := by omega
      subst hke
      gi_wp2
      go_end0
      exact ⟨⟨_, rfl⟩, .inl ⟨pre, hU, hJs⟩⟩

theorem valuesR_stops (m n₀ Bs : Nat) (A : Option Addr) (zs : List Hdr) (ca : Nat) (hl : zs.length ≤ 9223372036854775807)
    (w : World) (hn₀ : n₀ ≤ w.heap.size) (hlB : Bs < w.heap.size) (hA : Rd hdrV w n₀ A zs) (hBs : w.cell? ⟨Bs, 0, none⟩ = some (.slice A zs.length ca)) :
    SeqStopsK Fence.wide m Try.prog 28 #[.pointer (some ⟨Bs, 0, none⟩)] (fun x : Pl zs.length => #[hdrV (hdrAt zs x.1)]) (Below n₀)
      (fun pre => UpTo zs.length pre) (fun pre => ∃ k, k ≤ zs.length ∧ UpTo k pre) zs.length w := fun l J Jx W hW _ _ hY h0 =>
  valuesR1_in m l n₀ Bs A zs ca hl J Jx hY W (hA.below (hW.mono hn₀)) ((hW.cell (p := ⟨Bs, 0, none⟩) hlB).trans hBs) h0

set_option maxHeartbeats 400000 in
theorem all32_any (A : Option Addr) (la ca : Nat) (w : World) :
    Calls Try.prog 18 #[.slice A la ca] w fun e w' => e = .returned (.func (.func 29) #[] #[.pointer (some ⟨w.heap.size, 0, none⟩)]) ∧ w' = w.alloc (.cells #[.slice A la ca] 24) := by
  go_enter Try.func18, Try.ntmps18
  go_wp2
  go_ret
  exact ⟨by simp, rfl⟩

set_option maxRecDepth 100000 in
set_option maxHeartbeats 2000000 in
theorem all321_in (m : Nat) (l n₀ Bs : Nat) (A : Option Addr) (zs : List Int) (ca : Nat) (hl : zs.length ≤ 9223372036854775807) (J Jx : List (Pl zs.length) → World → Prop)
    (hY : ∀ pre x W, J pre W → pre.length < zs.length → YieldAt Fence.wide (m - 1) Try.prog l #[.int .i64 (x.1 : Nat), .int .i32 (cpt zs x.1)] W fun e W' =>
      (e = .returned (.bool true) ∧ J (pre ++ [x]) W' ∧ Below n₀ W W') ∨ (e = .returned (.bool false) ∧ Jx (pre ++ [x]) W'))
    (W : World) (hA : Rd (Value.int .i32) W n₀ A zs) (hBs : W.cell? ⟨Bs, 0, none⟩ = some (.slice A zs.length ca)) (h0 : J [] W) :
    CallsIn Fence.wide m Try.prog 29 #[.func (.yield l) #[] #[], .pointer (some ⟨Bs, 0, none⟩)] W fun e W' => (∃ v, e = .returned v) ∧
      ((∃ pre, UpTo zs.length pre ∧ J pre W') ∨ (∃ pre, (∃ k, k ≤ zs.length ∧ UpTo k pre) ∧ Jx pre W')) := by
  refine callsIn_of_wp Try.func29 rfl trivial ?_ rfl
  simp only [Try.ntmps29, List.size_toArray, List.length_cons, List.length_nil, Nat.reduceAdd, Nat.reduceSub, Array.replicate_succ, Array.replicate_zero, List.push_toArray, List.append_toArray, List.nil_append, List.cons_append]
  gi_wp2
  gi_loopw [7] (fun i wr => ∃ (k : Nat) (pre : List (Pl zs.length)), k ≤ zs.length ∧ i = .int .i64 k ∧ UpTo k pre ∧ J pre wr ∧ Hid (Rd (Value.int .i32) wr n₀ A zs))
    (fun i _ => zs.length - (intOf i).toNat)
  case atStart => exact ⟨0, [], Nat.zero_le _, rfl, UpTo.nil, h0, hA⟩
  case round =>
    clear h0 hA hBs
    obtain ⟨k, pre, hk, rfl, hU, hJs, HA⟩ := hrel
    by_cases hlt : k < zs.length
    · obtain ⟨fn, tmps, assign, body, hyl, hR⟩ := hY pre ⟨k, hlt⟩ wr hJs (by rw [hU.len]; exact hlt)
      dsimp only at hyl
      obtain ⟨b, off, rfl, hb, hc⟩ := HA.out k _ (cpt_lt hlt)
      have hkl : (k : Int) < (zs.length : Int) := by omega
      have hk0 : (0 : Int) ≤ (k : Int) := by omega
      gi_wp2
      refine hR.mono ?_
      rintro e W3 (⟨rfl, hJ3, hk3⟩ | ⟨rfl, hJx3⟩)
      · have HA3 : Hid (Rd (Value.int .i32) W3 n₀ (some ⟨b, off, none⟩) zs) := HA.out.below hk3
        gi_wp2
        go_roundw
        case rel => exact ⟨k + 1, pre ++ [⟨k, hlt⟩], by omega, by go_num, hU.snoc hlt, hJ3, HA3⟩
        case measure => simp [intOf]; omega
      · gi_wp2
        refine bodyPost_ret (results_none rfl _ _ _) rfl ?_
        exact ⟨⟨_, rfl⟩, .inr ⟨pre ++ [⟨k, hlt⟩], ⟨k + 1, by omega, hU.snoc hlt⟩, hJx3⟩⟩
    · have hke : k = zs.length := by omega
      subst hke
      gi_wp2
      go_end0
      exact ⟨⟨_, rfl⟩, .inl ⟨pre, hU, hJs⟩⟩

theorem all32_stops (m n₀ Bs : Nat) (A : Option Addr) (zs : List Int) (ca : Nat) (hl : zs.length ≤ 9223372036854775807)
    (w : World) (hn₀ : n₀ ≤ w.heap.size) (hlB : Bs < w.heap.size) (hA : Rd (Value.int .i32) w n₀ A zs) (hBs : w.cell? ⟨Bs, 0, none⟩ = some (.slice A zs.length ca)) :
    SeqStopsK Fence.wide m Try.prog 29 #[.pointer (some ⟨Bs, 0, none⟩)] (fun x : Pl zs.length => #[.int .i64 (x.1 : Nat), .int .i32 (cpt zs x.1)]) (Below n₀)
      (fun pre => UpTo zs.length pre) (fun pre => ∃ k, k ≤ zs.length ∧ UpTo k pre) zs.length w := fun l J Jx W hW _ _ hY h0 =>
  all321_in m l n₀ Bs A zs ca hl J Jx hY W (hA.below (hW.mono hn₀)) ((hW.cell (p := ⟨Bs, 0, none⟩) hlB).trans hBs) h0

set_option maxHeartbeats 400000 in
theorem all64_any (A : Option Addr) (la ca : Nat) (w : World) :
    Calls Try.prog 19 #[.slice A la ca] w fun e w' => e = .returned (.func (.func 30) #[] #[.pointer (some ⟨w.heap.size, 0, none⟩)]) ∧ w' = w.alloc (.cells #[.slice A la ca] 36) := by
  go_enter Try.func19, Try.ntmps19
  go_wp2
  go_ret
  exact ⟨by simp, rfl⟩

set_option maxRecDepth 100000 in
set_option maxHeartbeats 2000000 in
theorem all641_in (m : Nat) (l n₀ Bs : Nat) (A : Option Addr) (zs : List Int) (ca : Nat) (hl : zs.length ≤ 9223372036854775807) (J Jx : List (Pl zs.length) → World → Prop)
    (hY : ∀ pre x W, J pre W → pre.length < zs.length → YieldAt Fence.wide (m - 1) Try.prog l #[.int .i64 (x.1 : Nat), .int .i64 (cpt zs x.1)] W fun e W' =>
      (e = .returned (.bool true) ∧ J (pre ++ [x]) W' ∧ Below n₀ W W') ∨ (e = .returned (.bool false) ∧ Jx (pre ++ [x]) W'))
    (W : World) (hA : Rd (Value.int .i64) W n₀ A zs) (hBs : W.cell? ⟨Bs, 0, none⟩ = some (.slice A zs.length ca)) (h0 : J [] W) :
    CallsIn Fence.wide m Try.prog 30 #[.func (.yield l) #[] #[], .pointer (some ⟨Bs, 0, none⟩)] W fun e W' => (∃ v, e = .returned v) ∧
      ((∃ pre, UpTo zs.length pre ∧ J pre W') ∨ (∃ pre, (∃ k, k ≤ zs.length ∧ UpTo k pre) ∧ Jx pre W')) := by
  refine callsIn_of_wp Try.func30 rfl trivial ?_ rfl
  simp only [Try.ntmps30, List.size_toArray, List.length_cons, List.length_nil, Nat.reduceAdd, Nat.reduceSub, Array.replicate_succ, Array.replicate_zero, List.push_toArray, List.append_toArray, List.nil_append, List.cons_append]
  gi_wp2
  gi_loopw [7] (fun i wr => ∃ (k : Nat) (pre : List (Pl zs.length)), k ≤ zs.length ∧ i = .int .i64 k ∧ UpTo k pre ∧ J pre wr ∧ Hid (Rd (Value.int .i64) wr n₀ A zs))
    (fun i _ => zs.length - (intOf i).toNat)
  case atStart => exact ⟨0, [], Nat.zero_le _, rfl, UpTo.nil, h0, hA⟩
  case round =>
    clear h0 hA hBs
    obtain ⟨k, pre, hk, rfl, hU, hJs, HA⟩ := hrel
    by_cases hlt : k < zs.length
    · obtain ⟨fn, tmps, assign, body, hyl, hR⟩ := hY pre ⟨k, hlt⟩ wr hJs (by rw [hU.len]; exact hlt)
      dsimp only at hyl
      obtain ⟨b, off, rfl, hb, hc⟩ := HA.out k _ (cpt_lt hlt)
      have hkl : (k : Int) < (zs.length : Int) := by omega
      have hk0 : (0 : Int) ≤ (k : Int) := by omega
      gi_wp2
      refine hR.mono ?_
      rintro e W3 (⟨rfl, hJ3, hk3⟩ | ⟨rfl, hJx3⟩)
      · have HA3 : Hid (Rd (Value.int .i64) W3 n₀ (some ⟨b, off, none⟩) zs) := HA.out.below hk3
        gi_wp2
        go_roundw
        case rel => exact ⟨k + 1, pre ++ [⟨k, hlt⟩], by omega, by go_num, hU.snoc hlt, hJ3, HA3⟩
        case measure => simp [intOf]; omega
      · gi_wp2
        refine bodyPost_ret (results_none rfl _ _ _) rfl ?_
        exact ⟨⟨_, rfl⟩, .inr ⟨pre ++ [⟨k, hlt⟩], ⟨k + 1, by omega, hU.snoc hlt⟩, hJx3⟩⟩
    · have hke : k = zs.length := by omega
      subst hke
      gi_wp2
      go_end0
      exact ⟨⟨_, rfl⟩, .inl ⟨pre, hU, hJs⟩⟩

theorem all64_stops (m n₀ Bs : Nat) (A : Option Addr) (zs : List Int) (ca : Nat) (hl : zs.length ≤ 9223372036854775807)
    (w : World) (hn₀ : n₀ ≤ w.heap.size) (hlB : Bs < w.heap.size) (hA : Rd (Value.int .i64) w n₀ A zs) (hBs : w.cell? ⟨Bs, 0, none⟩ = some (.slice A zs.length ca)) :
    SeqStopsK Fence.wide m Try.prog 30 #[.pointer (some ⟨Bs, 0, none⟩)] (fun x : Pl zs.length => #[.int .i64 (x.1 : Nat), .int .i64 (cpt zs x.1)]) (Below n₀)
      (fun pre => UpTo zs.length pre) (fun pre => ∃ k, k ≤ zs.length ∧ UpTo k pre) zs.length w := fun l J Jx W hW _ _ hY h0 =>
  all641_in m l n₀ Bs A zs ca hl J Jx hY W (hA.below (hW.mono hn₀)) ((hW.cell (p := ⟨Bs, 0, none⟩) hlB).trans hBs) h0

end Go.Proofs.Ytnfcmkmjahplpaa
