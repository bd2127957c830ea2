/- A heap in memory: rise, by contract. -/
import Derived.Test.YtajmnhnepoomjaaHeapMore
namespace Go.Proofs.Ytajmnhnepoomjaa
open Go.RowKit Go.Shelf Go.Sort

/-- The heap's order as a value. -/
def fvG : Value := .func (.func 116) #[] #[]
/-- A heap that is one again, with the same spots as M. -/
def HeapG (b : Nat) (A : Option Addr) (c : Nat) (M : List SpotT) (W : World) (e : Ending) (W' : World) : Prop :=
  e = .returned (.tuple #[]) ∧ ∃ M', HeapAt W' b fvG A c M' ∧ M'.Perm M ∧ HeapOK gtS M' ∧ Kp (BlkH b A) W W'

set_option maxRecDepth 100000 in
set_option maxHeartbeats 4000000 in
theorem riseG_any {b : Nat} {A : Option Addr} {c : Nat} {M : List SpotT} {W : World} (h : HeapAt W b fvG A c M) (i : Nat) (hi : i < M.length) (hn : M.length ≤ 100000) (hu : UpBut gtS M i) :
    Calls Try.prog 161 #[.pointer (some ⟨b, 0, none⟩), .int .i64 i] W (HeapG b A c M W) := by
  have mixed : Try.prog.follows .mixedOrders = true := by kernel_rfl
  obtain ⟨g, rfl, hg, hgw0⟩ := ownPos h.row (by omega)
  obtain ⟨n, hnl⟩ : ∃ n, M.length = n := ⟨_, rfl⟩
  rw [hnl] at hi hn
  have HN := Lib.hid hnl
  have HU := Lib.hid hu
  have HH := Lib.hid h
  clear hnl hu h hgw0
  go_enter Try.func161, Try.ntmps161
  go_wp2
  go_loopw [1] (fun v wr => ∃ (j : Nat) (N : List SpotT), j < n ∧ v = .int .i64 j ∧ Hid (N.length = n) ∧ Hid (HeapAt wr b fvG (some ⟨g, 0, none⟩) c N) ∧ Hid (N.Perm M ∧ UpBut gtS N j) ∧ Hid (Kp (BlkH b (some ⟨g, 0, none⟩)) W wr)) (fun v _ => (intOf v).toNat)
  case atStart => exact ⟨i, M, hi, rfl, HN.out, HH.out, ⟨List.Perm.refl _, HU.out⟩, Kp.refl⟩
  case round =>
    clear HH HU
    obtain ⟨j, N, hj, rfl, HL, HH, HP, HK⟩ := hrel
    rcases (show j = 0 ∨ ∃ m, j = m + 1 by cases j with | zero => exact .inl rfl | succ m => exact .inr ⟨m, rfl⟩) with rfl | ⟨m, rfl⟩
    · rw [show ((0 : Nat) : Int) = 0 from rfl]
      have HS := Lib.hid (HP.out.2.stop (.inl rfl))
      go_wp2
      exact bodyPost_end (results_none rfl _ _ _) rfl ⟨rfl, N, HH.out, HP.out.1, HS.out, HK.out⟩
    · have hL := HL.out
      have hh := HH.out
      have hgw : g < wr.heap.size := (hh.blk g 0 (.inr rfl)).2
      have hbw : b < wr.heap.size := hh.lt
      have hA := ArrS.of_own hh.row
      have c0 := hh.h0
      have c1 := hh.h1
      unfold fvG at c1
      rw [hL] at hA c0
      obtain ⟨p, hp⟩ : ∃ p, m / 2 = p := ⟨_, rfl⟩
      have t0 := fun n os => cell_grown (n := n) (os := os) (a := ⟨b, 0, none⟩) hbw c0
      have t1 := fun n os => cell_grown (n := n) (os := os) (a := ⟨b, 1, none⟩) hbw c1
      have g0 := fun n os => cell_grown (n := n) (os := os) (a := ⟨g, (m + 1) * 3, none⟩) hgw (hA.c0 (m + 1) (by omega))
      have g1 := fun n os => cell_grown (n := n) (os := os) (a := ⟨g, (m + 1) * 3 + 1, none⟩) hgw (hA.c1 (m + 1) (by omega))
      have g2 := fun n os => cell_grown (n := n) (os := os) (a := ⟨g, (m + 1) * 3 + 2, none⟩) hgw (hA.c2 (m + 1) (by omega))
      have g3 := fun n os => cell_grown (n := n) (os := os) (a := ⟨g, p * 3, none⟩) hgw (hA.c0 p (by omega))
      have g4 := fun n os => cell_grown (n := n) (os := os) (a := ⟨g, p * 3 + 1, none⟩) hgw (hA.c1 p (by omega))
      have g5 := fun n os => cell_grown (n := n) (os := os) (a := ⟨g, p * 3 + 2, none⟩) hgw (hA.c2 p (by omega))
      have HSt : Hid (gtS (spAt N (m + 1)) (spAt N p) = false → HeapOK gtS N) := Lib.hid fun e => HP.out.2.stop (.inr (by rw [Nat.add_sub_cancel, hp]; exact e))
      have HSp : Hid (gtS (spAt N (m + 1)) (spAt N p) = true → UpBut gtS (swap2 N (m + 1) p) p) := Lib.hid fun e => by
        have := HP.out.2.step ordG (by omega) (by omega) (by rw [Nat.add_sub_cancel, hp]; exact e)
        rw [Nat.add_sub_cancel, hp] at this
        exact this
      have HPm : Hid ((swap2 N (m + 1) p).Perm M) := Lib.hid ((swap2_perm N (m + 1) p (by omega) (by omega)).trans HP.out.1)
      have HP1 := Lib.hid HP.out.1
      clear hh hA c0 c1 hL HP
      obtain ⟨x, hx⟩ : ∃ x, spAt N (m + 1) = x := ⟨_, rfl⟩
      obtain ⟨y, hy⟩ : ∃ y, spAt N p = y := ⟨_, rfl⟩
      rw [hx] at g0 g1 g2 HSt HSp
      rw [hy] at g3 g4 g5 HSt HSp
      obtain ⟨⟨xa, xb⟩, xc⟩ := x
      obtain ⟨⟨ya, yb⟩, yc⟩ := y
      simp only at g0 g1 g2 g3 g4 g5
      clear hx hy
      have hpm : p ≤ m := by omega
      have k0 : (0 : Int) < ((m + 1 : Nat) : Int) := by omega
      have k0b : (0 : Int) < (m : Int) + 1 := by omega
      have k1 : (0 : Int) ≤ ((m + 1 : Nat) : Int) := by omega
      have k1b : (0 : Int) ≤ (m : Int) + 1 := by omega
      have k2 : ((m + 1 : Nat) : Int) < (n : Int) := by omega
      have k2b : (m : Int) + 1 < (n : Int) := by omega
      have k3 : (p : Int) < (n : Int) := by omega
      have k4 : (0 : Int) ≤ (p : Int) := by omega
      have e1 : IntKind.i64.wrap (((m + 1 : Nat) : Int) - 1) = (m : Int) := by
        rw [IntWalk.i64_in _ (by omega)]
        omega
      have e1b : IntKind.i64.wrap (m : Int) = (m : Int) := IntWalk.i64_in _ (by omega)
      have e4 : (m : Int).tdiv 2 = (p : Int) := by
        rw [Int.tdiv_eq_ediv_of_nonneg (by omega)]
        omega
      have e4b : IntKind.i64.wrap (p : Int) = (p : Int) := IntWalk.i64_in _ (by omega)
      have e2 : ((p : Int)).toNat = p := Int.toNat_natCast p
      have e3 : (((m + 1 : Nat) : Int)).toNat = m + 1 := Int.toNat_natCast _
      have e3b : ((m : Int) + 1).toNat = m + 1 := by omega
      clear hp
      go_upto_region 2 with (fail)
      go_quiet_grown ((go_at_call 116; exact Calls.grown_of (First_any ((_, _), _) ((_, _), _) _)))
      change Exit.then _ _ Exit.normal _ (grow (wr.drewN nq) osq)
      have hbv : Below wr.heap.size wr (grow (wr.drewN nq) osq) := (show Grown wr (grow (wr.drewN nq) osq) from ⟨nq, osq, rfl⟩).below
      have hh2 := Lib.hid (HH.out.later hbv)
      have HK2 := Lib.hid (HK.out.trans (Kp.of_below hbv))
      clear g0 g1 g2 g3 g4 g5 t0 t1 e1 e1b e2 e3 e3b hbv HH HK hgw hbw
      generalize grow (wr.drewN nq) osq = V at *
      cases hs : gtS ((xa, xb), xc) ((ya, yb), yc)
      · have HS := Lib.hid (HSt.out hs)
        clear hs
        go_wp2
        exact bodyPost_ret (results_none rfl _ _ _) rfl ⟨rfl, N, hh2.out, HP1.out, HS.out, HK2.out⟩
      · have HS := Lib.hid (HSp.out hs)
        clear hs
        go_wp2_with fail
        refine (swap_any hh2.out (m + 1) p (by rw [HL.out]; omega) (by rw [HL.out]; omega) (by omega) (by rw [HL.out]; exact hn)).mono ?_
        rintro e V' ⟨rfl, hh3, hk3⟩
        have HH3 := Lib.hid hh3
        have HK3 := Lib.hid (HK2.out.trans hk3)
        clear hh3 hk3
        go_wp2
        go_roundw
        case rel => exact ⟨p, swap2 N (m + 1) p, by omega, rfl, by rw [Hid, swap2_len]; exact HL.out, HH3.out, ⟨HPm.out, HS.out⟩, HK3.out⟩
        case measure => simp [intOf]; omega

end Go.Proofs.Ytajmnhnepoomjaa
