/- slices.Values over spots: its iterator's contract. -/
import Derived.Test.YtajmnhnepoomjaaVecIter
import Derived.Test.YtajmnhnepoomjaaRankCmp
namespace Go.Proofs.Ytajmnhnepoomjaa
open Go.RowKit Go.Shelf
attribute [local go_sem] Oper.semAt_some wide_fn wide_depth

/-- A spot as a value. -/
def sptV (s : SpotT) : Value := .agg #[.int .u64 s.1.1, .int .u64 s.1.2, .int .i64 s.2]
/-- The slice that begins at A reads, in w, as these spots, in blocks below B. -/
def RdS (w : World) (B : Nat) (A : Option Addr) (zs : List SpotT) : Prop :=
  ∀ k z, zs[k]? = some z → ∃ b off, A = some ⟨b, off, none⟩ ∧ b < B ∧ w.cell? ⟨b, off + k * 3, none⟩ = some (.int .u64 z.1.1) ∧ w.cell? ⟨b, off + k * 3 + 1, none⟩ = some (.int .u64 z.1.2) ∧ w.cell? ⟨b, off + k * 3 + 2, none⟩ = some (.int .i64 z.2)
section
variable {w w' : World} {B B' : Nat} {A : Option Addr} {zs : List SpotT}
theorem RdS.nil : RdS w B A [] := fun k z h => by simp at h
theorem RdS.below (h : RdS w B A zs) (hb : Below B w w') : RdS w' B A zs := fun k z hz => by
  obtain ⟨b, off, hA, hlt, h0, h1, h2⟩ := h k z hz
  exact ⟨b, off, hA, hlt, (hb.cell (p := ⟨b, off + k * 3, none⟩) hlt).trans h0, (hb.cell (p := ⟨b, off + k * 3 + 1, none⟩) hlt).trans h1, (hb.cell (p := ⟨b, off + k * 3 + 2, none⟩) hlt).trans h2⟩
theorem RdS.more (h : RdS w B A zs) (hB : B ≤ B') : RdS w B' A zs := fun k z hz => by
  obtain ⟨b, off, hA, hlt, hc⟩ := h k z hz
  exact ⟨b, off, hA, by omega, hc⟩
end

/-- The spot at a place. -/
def spAt (zs : List SpotT) (k : Nat) : SpotT := zs.getD k ((0, 0), 0)
theorem spAt_lt {zs : List SpotT} {k : Nat} (h : k < zs.length) : zs[k]? = some (spAt zs k) := by
  unfold spAt
  rw [List.getD_eq_getElem?_getD, List.getElem?_eq_getElem h]
  rfl

set_option maxHeartbeats 400000 in
theorem valuesS_any (A : Option Addr) (la ca : Nat) (w : World) :
    Calls Try.prog 87 #[.slice A la ca] w fun e w' => e = .returned (.func (.func 127) #[] #[.pointer (some ⟨w.heap.size, 0, none⟩)]) ∧ w' = w.alloc (.cells #[.slice A la ca] 44) := by
  go_enter Try.func87, Try.ntmps87
  go_wp2
  go_ret
  exact ⟨by simp, rfl⟩

set_option maxRecDepth 100000 in
set_option maxHeartbeats 2000000 in
theorem valuesS1_in (m : Nat) (l n₀ Bs B0 : Nat) (A : Option Addr) (zs : List SpotT) (ca : Nat) (hl : zs.length ≤ 3074457345618258602) (J Jx : List (Pl zs.length) → World → Prop) (hJ : AbidesFrom B0 J)
    (hY : ∀ pre x W, J pre W → pre.length < zs.length → YieldAt Fence.wide (m - 1) Try.prog l #[sptV (spAt zs x.1)] W fun e W' =>
      (e = .returned (.bool true) ∧ J (pre ++ [x]) W' ∧ Below n₀ W W') ∨ (e = .returned (.bool false) ∧ Jx (pre ++ [x]) W'))
    (W : World) (hn : n₀ ≤ W.heap.size) (hA : RdS W n₀ A zs) (hBs : W.cell? ⟨Bs, 0, none⟩ = some (.slice A zs.length ca)) (h0 : J [] W) :
    CallsIn Fence.wide m Try.prog 127 #[.func (.yield l) #[] #[], .pointer (some ⟨Bs, 0, none⟩)] W fun e W' => (∃ v, e = .returned v) ∧
      ((∃ pre, UpTo zs.length pre ∧ J pre W') ∨ (∃ pre, (∃ k, k ≤ zs.length ∧ UpTo k pre) ∧ Jx pre W')) := by
  refine callsIn_of_wp Try.func127 rfl trivial ?_ rfl
  simp only [Try.ntmps127, List.size_toArray, List.length_cons, List.length_nil, Nat.reduceAdd, Nat.reduceSub, Array.replicate_succ, Array.replicate_zero, List.push_toArray, List.append_toArray, List.nil_append, List.cons_append]
  gi_wp2
  gi_loopw [7] (fun i wr => ∃ (k : Nat) (pre : List (Pl zs.length)), k ≤ zs.length ∧ i = .int .i64 k ∧ UpTo k pre ∧ J pre wr ∧ Hid (RdS wr n₀ A zs) ∧ n₀ ≤ wr.heap.size)
    (fun i _ => zs.length - (intOf i).toNat)
  case atStart => exact ⟨0, [], Nat.zero_le _, rfl, UpTo.nil, h0, hA, hn⟩
  case round =>
    clear h0 hA hBs hn
    obtain ⟨k, pre, hk, rfl, hU, hJs, HA, hn⟩ := hrel
    by_cases hlt : k < zs.length
    · have hJ2 : J pre (wr.alloc (.cells #[.int .u64 (spAt zs k).1.1, .int .u64 (spAt zs k).1.2, .int .i64 (spAt zs k).2] 62)) := hJ _ _ _ none hJs (World.grownBy_alloc wr _ none) (fun r e => by cases e)
      obtain ⟨fn, tmps, assign, body, hyl, hR⟩ := hY pre ⟨k, hlt⟩ _ hJ2 (by rw [hU.len]; exact hlt)
      dsimp only at hyl
      obtain ⟨b, off, rfl, hb, hc0, hc1, hc2⟩ := HA.out k _ (spAt_lt hlt)
      have hkl : (k : Int) < (zs.length : Int) := by omega
      have hk0 : (0 : Int) ≤ (k : Int) := by omega
      have HA2 : Hid (RdS (wr.alloc (.cells #[.int .u64 (spAt zs k).1.1, .int .u64 (spAt zs k).1.2, .int .i64 (spAt zs k).2] 62)) n₀ (some ⟨b, off, none⟩) zs) := HA.out.below ((Below.refl _ wr).alloc hn _)
      unfold sptV at hyl
      generalize spAt zs k = z at *
      obtain ⟨⟨d, i⟩, s⟩ := z
      gi_wp2
      refine hR.mono ?_
      rintro e W3 (⟨rfl, hJ3, hk3⟩ | ⟨rfl, hJx3⟩)
      · have HA3 : Hid (RdS W3 n₀ (some ⟨b, off, none⟩) zs) := HA2.out.below hk3
        have hn3 : n₀ ≤ W3.heap.size := Nat.le_trans (by simp; omega) hk3.size
        gi_wp2
        go_roundw
        case rel => exact ⟨k + 1, pre ++ [⟨k, hlt⟩], by omega, by go_num, hU.snoc hlt, hJ3, HA3, hn3⟩
        case measure => simp [intOf]; omega
      · gi_wp2
        refine bodyPost_ret (results_none rfl _ _ _) rfl ?_
        exact ⟨⟨_, rfl⟩, .inr ⟨pre ++ [⟨k, hlt⟩], ⟨k + 1, by omega, hU.snoc hlt⟩, hJx3⟩⟩
    · have hke : k = zs.length := by omega
      subst hke
      gi_wp2
      go_end0
      exact ⟨⟨_, rfl⟩, .inl ⟨pre, hU, hJs⟩⟩

/-- slices.Values hands back a value that goes through the spots. -/
theorem valuesS_stops (m n₀ Bs : Nat) (A : Option Addr) (zs : List SpotT) (ca : Nat) (hl : zs.length ≤ 3074457345618258602)
    (w : World) (hn₀ : n₀ ≤ w.heap.size) (hlB : Bs < w.heap.size) (hA : RdS w n₀ A zs) (hBs : w.cell? ⟨Bs, 0, none⟩ = some (.slice A zs.length ca)) :
    SeqStopsK Fence.wide m Try.prog 127 #[.pointer (some ⟨Bs, 0, none⟩)] (fun x : Pl zs.length => #[sptV (spAt zs x.1)]) (Below n₀)
      (fun pre => UpTo zs.length pre) (fun pre => ∃ k, k ≤ zs.length ∧ UpTo k pre) zs.length w := fun l J Jx W hW hJ _ hY h0 =>
  valuesS1_in m l n₀ Bs W.heap.size A zs ca hl J Jx hJ hY W (Nat.le_trans hn₀ hW.size) (hA.below (hW.mono hn₀)) ((hW.cell (p := ⟨Bs, 0, none⟩) hlB).trans hBs) h0

end Go.Proofs.Ytajmnhnepoomjaa
