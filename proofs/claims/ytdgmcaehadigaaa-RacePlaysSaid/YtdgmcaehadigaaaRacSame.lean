/- Lists of clashes that are one are told to be one; a deed is done to a watch, by contract. -/
import Derived.Test.YtdgmcaehadigaaaRacTwo
import Derived.Test.YtdgmcaehadigaaaLits
namespace Go.Proofs.Ytdgmcaehadigaaa
open Go.RowKit

def aggCl (x : ClT) : Array Value := #[.int .i64 x.1.1.1, .int .i64 x.1.1.2, .bool x.1.2, .int .i64 x.2.1.1, .int .i64 x.2.1.2, .bool x.2.2]
theorem eq_access (d : Nat) (x y : AccT) (w : World) : (Op.equalIn (d + 2) 118 (.agg #[.int .i64 x.1.1, .int .i64 x.1.2, .bool x.2]) (.agg #[.int .i64 y.1.1, .int .i64 y.1.2, .bool y.2])).run Try.prog w = .ok (decide (x = y)) w := by
  have u3 := Try.underlying3
  have u4 := Try.underlying4
  have a3 := Try.isAgg3
  have a4 := Try.isAgg4
  have hS : Try.prog.underlying 118 = some (.struct (Try.prog.fieldsOf 118)) := by kernel_rfl
  have hp : Try.prog.stoodInHeld 118 = false := by kernel_rfl
  rw [run_equalIn_agg w (d + 1) 118 _ _ hS hp]
  simp only [Program.fieldsOf, Try.underlying118]
  obtain ⟨⟨a, b⟩, c⟩ := x
  obtain ⟨⟨a', b'⟩, c'⟩ := y
  go_simp
  by_cases h1 : a = a' <;> by_cases h2 : b = b' <;> by_cases h3 : c = c' <;> simp [h1, h2, h3]
theorem eq_clash (x y : ClT) (w : World) : (Op.equalIn 10000 120 (.agg (aggCl x)) (.agg (aggCl y))).run Try.prog w = .ok (decide (x = y)) w := by
  have a64 := Try.isAgg118
  have z64 := Try.sizeOf118
  have hS : Try.prog.underlying 120 = some (.struct (Try.prog.fieldsOf 120)) := by kernel_rfl
  have hp : Try.prog.stoodInHeld 120 = false := by kernel_rfl
  have hq := eq_access 9997
  rw [show (10000 : Nat) = 9999 + 1 from rfl, run_equalIn_agg w 9999 120 _ _ hS hp]
  simp only [Program.fieldsOf, Try.underlying120]
  obtain ⟨x1, x2⟩ := x
  obtain ⟨y1, y2⟩ := y
  have q1 := hq x1 y1
  have q2 := hq x2 y2
  unfold aggCl
  generalize hE : Op.equalIn 9999 = E at *
  go_simp
  by_cases h1 : x1 = y1 <;> by_cases h2 : x2 = y2 <;> simp [h1, h2]
theorem cellsCl_at : ∀ (L : List ClT) (k : Nat) (x : ClT), L[k]? = some x → ∀ j u, (aggCl x).toList[j]? = some u → (cellsCl L)[k * 6 + j]? = some u
  | [], k, x, h, _, _, _ => by simp at h
  | y :: L, 0, x, h, j, u, hj => by
    simp at h
    subst h
    have hl : j < 6 := (List.getElem?_eq_some_iff.1 hj).1
    have : cellsCl (y :: L) = (aggCl y).toList ++ cellsCl L := by simp [cellsCl, aggCl, cellsAcc]
    rw [this, List.getElem?_append_left (by simp [aggCl]; omega)]
    simpa using hj
  | y :: L, k + 1, x, h, j, u, hj => by
    have ih := cellsCl_at L k x (by simpa using h) j u hj
    have : cellsCl (y :: L) = (aggCl y).toList ++ cellsCl L := by simp [cellsCl, aggCl, cellsAcc]
    rw [this, List.getElem?_append_right (by simp [aggCl]; omega)]
    have e : (k + 1) * 6 + j - (aggCl y).toList.length = k * 6 + j := by simp [aggCl]; omega
    rw [e]
    exact ih
theorem RdC.at_ {w : World} {A : Option Addr} {L : List ClT} (h : RdC w A L) {k : Nat} {x : ClT} (hx : L[k]? = some x) : ∃ b off, A = some ⟨b, off, none⟩ ∧ b < w.heap.size ∧ ∀ j u, (aggCl x).toList[j]? = some u → w.cell? ⟨b, off + (k * 6 + j), none⟩ = some u := by
  obtain ⟨b, off, e, hb, _⟩ := h (k * 6 + 0) _ (cellsCl_at L k x hx 0 _ rfl)
  refine ⟨b, off, e, hb, fun j u hj => ?_⟩
  obtain ⟨b', off', e', _, hc⟩ := h (k * 6 + j) _ (cellsCl_at L k x hx j u hj)
  rw [e] at e'
  injection e' with e'
  injection e' with e1 e2
  subst e1 e2
  exact hc
theorem RdC.later {w w' : World} {A : Option Addr} {L : List ClT} (h : RdC w A L) (hb : Below w.heap.size w w') : RdC w' A L := (h.below hb).more hb.size

set_option maxHeartbeats 2000000 in
theorem SameC_refl (A B : Option Addr) (L : List ClT) (c d : Nat) (w : World) (hA : RdC w A L) (hB : RdC w B L) (hl : L.length ≤ 100000) :
    Calls Try.prog 19 #[.slice A L.length c, .slice B L.length d] w fun e w' => e = .returned (.bool true) ∧ Drawn w w' := by
  go_enter Try.func19, Try.ntmps19
  go_wp2
  go_loopw [13] (fun i wr => ∃ k : Nat, k ≤ L.length ∧ i = .int .i64 k ∧ Drawn w wr) (fun i _ => L.length - (intOf i).toNat)
  case atStart => exact ⟨0, Nat.zero_le _, rfl, Drawn.refl⟩
  case round =>
    obtain ⟨k, hk, rfl, hdr⟩ := hrel
    by_cases hlt : k < L.length
    · obtain ⟨b, off, rfl, hb, hca⟩ := hA.at_ (List.getElem?_eq_getElem hlt)
      obtain ⟨b', off', rfl, hb', hcb⟩ := hB.at_ (List.getElem?_eq_getElem hlt)
      generalize L[k] = x at *
      have hq : ∀ w, (Op.equalIn 10000 120 (.agg (aggCl x)) (.agg (aggCl x))).run Try.prog w = .ok true w := fun w => by rw [eq_clash]; simp
      have a0 := (hdr.cell _).trans (hca 0 _ rfl)
      have a1 := (hdr.cell _).trans (hca 1 _ rfl)
      have a2 := (hdr.cell _).trans (hca 2 _ rfl)
      have a3 := (hdr.cell _).trans (hca 3 _ rfl)
      have a4 := (hdr.cell _).trans (hca 4 _ rfl)
      have a5 := (hdr.cell _).trans (hca 5 _ rfl)
      have b0 := (hdr.cell _).trans (hcb 0 _ rfl)
      have b1 := (hdr.cell _).trans (hcb 1 _ rfl)
      have b2 := (hdr.cell _).trans (hcb 2 _ rfl)
      have b3 := (hdr.cell _).trans (hcb 3 _ rfl)
      have b4 := (hdr.cell _).trans (hcb 4 _ rfl)
      have b5 := (hdr.cell _).trans (hcb 5 _ rfl)
      clear hca hcb
      obtain ⟨⟨⟨x1, x2⟩, x3⟩, ⟨⟨x4, x5⟩, x6⟩⟩ := x
      unfold aggCl at hq
      simp only [Nat.add_zero, ← Nat.add_assoc] at a0 a1 a2 a3 a4 a5 b0 b1 b2 b3 b4 b5 hq
      have hkl : (k : Int) < (L.length : Int) := by omega
      have hk0 : (0 : Int) ≤ (k : Int) := by omega
      go_wp2
      go_quiet (fail)
      go_wp2
      go_roundw
      case rel => exact ⟨k + 1, by omega, by go_num, hdr.step _⟩
      case measure => simp [intOf]; omega
    · go_wp2
      go_ret
      exact ⟨rfl, hdr⟩

end Go.Proofs.Ytdgmcaehadigaaa
