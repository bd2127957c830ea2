/- A heap in memory: sink, by contract. -/
import Derived.Test.YtajmnhnepoomjaaHeapRiseG
import Derived.Deep.CutRange
namespace Go.Proofs.Ytajmnhnepoomjaa
open Go.RowKit Go.Shelf Go.Sort

set_option maxRecDepth 100000 in
set_option maxHeartbeats 4000000 in
theorem sinkG_any {b : Nat} {A : Option Addr} {c : Nat} {M : List SpotT} {W : World} (h : HeapAt W b fvG A c M) (hn : M.length ≤ 100000) (hu : DownBut gtS M 0) :
    Calls Try.prog 160 #[.pointer (some ⟨b, 0, none⟩), .int .i64 0] W (HeapG b A c M W) := by
  have mixed : Try.prog.follows .mixedOrders = true := by kernel_rfl
  obtain ⟨n, hnl⟩ : ∃ n, M.length = n := ⟨_, rfl⟩
  rw [hnl] at hn
  have HN := Lib.hid hnl
  have HU := Lib.hid hu
  have HH := Lib.hid h
  clear hnl hu h
  go_enter Try.func160, Try.ntmps160
  go_wp2
  go_loopw [1] (fun v wr => ∃ (j : Nat) (N : List SpotT), j ≤ n ∧ v = .int .i64 j ∧ Hid (N.length = n) ∧ Hid (HeapAt wr b fvG A c N) ∧ Hid (N.Perm M ∧ DownBut gtS N j) ∧ Hid (Kp (BlkH b A) W wr)) (fun v _ => n - (intOf v).toNat)
  case atStart => exact ⟨0, M, Nat.zero_le _, rfl, HN.out, HH.out, ⟨List.Perm.refl _, HU.out⟩, Kp.refl⟩
  case round =>
    clear HH HU
    obtain ⟨j, N, hj, rfl, HL, HH, HP, HK⟩ := hrel
    have hL := HL.out
    have c0 := HH.out.h0
    rw [hL] at c0
    obtain ⟨p, hp⟩ : ∃ p, 2 * j + 1 = p := ⟨_, rfl⟩
    have ep : (2 : Int) * (j : Int) + 1 = (p : Int) := by omega
    by_cases hpn : p < n
    · obtain ⟨g, rfl, hg, hgw⟩ := ownPos HH.out.row (by omega)
      have hbw : b < wr.heap.size := HH.out.lt
      have p1 : ¬ (n : Int) ≤ (p : Int) := by omega
      have HF1 : Hid ((p + 1 < n → gtS (spAt N (p + 1)) (spAt N p) = false) → Fore gtS N j p) := Lib.hid fun e => fore_one ordG hp (by omega) (by rw [hL]; exact e)
      have HF2 : Hid (p + 1 < n → gtS (spAt N (p + 1)) (spAt N p) = true → Fore gtS N j (p + 1)) := Lib.hid fun h1 e => fore_two ordG hp (by omega) e
      clear hL hp
      go_upto_region 3 with (fail)
      go_cut [45] from 6 to 71 (fun v wx => ∃ t : Bool, v = .bool t ∧ Hid (t = true → Fore gtS N j (p + 1)) ∧ Hid (t = false → Fore gtS N j p) ∧ Hid (HeapAt wx b fvG (some ⟨g, 0, none⟩) c N) ∧ Hid (Kp (BlkH b (some ⟨g, 0, none⟩)) W wx))
      case first =>
        by_cases hq : p + 1 < n
        · have hA := ArrS.of_own HH.out.row
          have c1 := HH.out.h1
          unfold fvG at c1
          rw [HL.out] at hA
          have t0 := fun n os => cell_grown (n := n) (os := os) (a := ⟨b, 0, none⟩) hbw c0
          have t1 := fun n os => cell_grown (n := n) (os := os) (a := ⟨b, 1, none⟩) hbw c1
          have g0 := fun n os => cell_grown (n := n) (os := os) (a := ⟨g, (p + 1) * 3, none⟩) hgw (hA.c0 (p + 1) hq)
          have g1 := fun n os => cell_grown (n := n) (os := os) (a := ⟨g, (p + 1) * 3 + 1, none⟩) hgw (hA.c1 (p + 1) hq)
          have g2 := fun n os => cell_grown (n := n) (os := os) (a := ⟨g, (p + 1) * 3 + 2, none⟩) hgw (hA.c2 (p + 1) hq)
          have g3 := fun n os => cell_grown (n := n) (os := os) (a := ⟨g, p * 3, none⟩) hgw (hA.c0 p hpn)
          have g4 := fun n os => cell_grown (n := n) (os := os) (a := ⟨g, p * 3 + 1, none⟩) hgw (hA.c1 p hpn)
          have g5 := fun n os => cell_grown (n := n) (os := os) (a := ⟨g, p * 3 + 2, none⟩) hgw (hA.c2 p hpn)
          clear hA c1
          obtain ⟨x, hx⟩ : ∃ x, spAt N (p + 1) = x := ⟨_, rfl⟩
          obtain ⟨y, hy⟩ : ∃ y, spAt N p = y := ⟨_, rfl⟩
          rw [hx] at g0 g1 g2 HF1 HF2
          rw [hy] at g3 g4 g5 HF1 HF2
          obtain ⟨⟨xa, xb⟩, xc⟩ := x
          obtain ⟨⟨ya, yb⟩, yc⟩ := y
          simp only at g0 g1 g2 g3 g4 g5
          clear hx hy
          have k1b : (0 : Int) ≤ (p : Int) + 1 := by omega
          have k2b : (p : Int) + 1 < (n : Int) := by omega
          have k3 : (p : Int) < (n : Int) := by omega
          have k4 : (0 : Int) ≤ (p : Int) := by omega
          have e2 : ((p : Int)).toNat = p := Int.toNat_natCast p
          have e3b : ((p : Int) + 1).toNat = p + 1 := by omega
          go_quiet_grown ((go_at_call 116; exact Calls.grown_of (First_any ((_, _), _) ((_, _), _) _)))
          change Exit.then _ _ Exit.normal _ (grow (wr.drewN nq) osq)
          have hbv : Below wr.heap.size wr (grow (wr.drewN nq) osq) := (show Grown wr (grow (wr.drewN nq) osq) from ⟨nq, osq, rfl⟩).below
          have hh2 := Lib.hid (HH.out.later hbv)
          have HK2 := Lib.hid (HK.out.trans (Kp.of_below hbv))
          have HQ := Lib.hid hq
          clear g0 g1 g2 g3 g4 g5 t0 t1 e2 e3b hbv HH HK hgw hbw hq
          generalize grow (wr.drewN nq) osq = V at *
          go_wp2
          go_meet
          case rel => exact ⟨_, rfl, fun e => HF2.out HQ.out e, fun e => HF1.out (fun _ => e), hh2.out, HK2.out⟩
        · have q1 : ¬ (p : Int) + 1 < (n : Int) := by omega
          have HQ := Lib.hid hq
          clear hq
          go_quiet (fail)
          have hbv := below_draws wr nq wr.heap.size
          have hh2 := Lib.hid (HH.out.later hbv)
          have HK2 := Lib.hid (HK.out.trans (Kp.of_below hbv))
          clear hbv HH HK hgw hbw
          generalize wr.drewN nq = V at *
          go_wp2
          go_meet
          case rel => exact ⟨false, rfl, fun e => (by cases e), fun _ => HF1.out (fun e => absurd e HQ.out), hh2.out, HK2.out⟩
      case rest =>
        clear HH HK HF1 HF2 c0 hgw hbw ep p1 hj
        obtain ⟨t, rfl, HT, HE, HH, HK⟩ := hcut
        cases t
        · have HX := HE
          have hC := HX.out rfl
          obtain ⟨hq0, hqn, hqp, hqf⟩ := hC
          rw [HL.out] at hqn
          have hbw : b < wc.heap.size := HH.out.lt
          have hgw : g < wc.heap.size := (HH.out.blk g 0 (.inr rfl)).2
          have hA := ArrS.of_own HH.out.row
          have c0 := HH.out.h0
          have c1 := HH.out.h1
          unfold fvG at c1
          rw [HL.out] at hA c0
          have t0 := fun n os => cell_grown (n := n) (os := os) (a := ⟨b, 0, none⟩) hbw c0
          have t1 := fun n os => cell_grown (n := n) (os := os) (a := ⟨b, 1, none⟩) hbw c1
          have g0 := fun n os => cell_grown (n := n) (os := os) (a := ⟨g, p * 3, none⟩) hgw (hA.c0 p (by omega))
          have g1 := fun n os => cell_grown (n := n) (os := os) (a := ⟨g, p * 3 + 1, none⟩) hgw (hA.c1 p (by omega))
          have g2 := fun n os => cell_grown (n := n) (os := os) (a := ⟨g, p * 3 + 2, none⟩) hgw (hA.c2 p (by omega))
          have g3 := fun n os => cell_grown (n := n) (os := os) (a := ⟨g, j * 3, none⟩) hgw (hA.c0 j (by omega))
          have g4 := fun n os => cell_grown (n := n) (os := os) (a := ⟨g, j * 3 + 1, none⟩) hgw (hA.c1 j (by omega))
          have g5 := fun n os => cell_grown (n := n) (os := os) (a := ⟨g, j * 3 + 2, none⟩) hgw (hA.c2 j (by omega))
          have HSt : Hid (gtS (spAt N p) (spAt N j) = false → HeapOK gtS N) := Lib.hid fun e => HP.out.2.stop ordG (HX.out rfl) e
          have HSp : Hid (gtS (spAt N p) (spAt N j) = true → DownBut gtS (swap2 N j p) p) := Lib.hid fun e => HP.out.2.step ordG (HX.out rfl) e
          have HPm : Hid ((swap2 N j p).Perm M) := Lib.hid ((swap2_perm N j p (by rw [HL.out]; omega) (by rw [HL.out]; omega)).trans HP.out.1)
          have HP1 := Lib.hid HP.out.1
          clear hA c0 c1 HP HT HE HX hqf
          obtain ⟨x, hx⟩ : ∃ x, spAt N p = x := ⟨_, rfl⟩
          obtain ⟨y, hy⟩ : ∃ y, spAt N j = y := ⟨_, rfl⟩
          rw [hx] at g0 g1 g2 HSt HSp
          rw [hy] at g3 g4 g5 HSt HSp
          obtain ⟨⟨xa, xb⟩, xc⟩ := x
          obtain ⟨⟨ya, yb⟩, yc⟩ := y
          simp only at g0 g1 g2 g3 g4 g5
          clear hx hy
          have k1 : (0 : Int) ≤ (j : Int) := by omega
          have k2 : (j : Int) < (n : Int) := by omega
          have k3 : (p : Int) < (n : Int) := by omega
          have k4 : (0 : Int) ≤ (p : Int) := by omega
          have e2 : ((p : Int)).toNat = p := by omega
          have e3 : ((j : Int)).toNat = j := Int.toNat_natCast _
          have hjq : j < p := by omega
          have HJ := Lib.hid hjq
          have HQN := Lib.hid hqn
          clear hqp hjq hqn hq0
          go_upto_region 5 with (fail)
          go_quiet_grown ((go_at_call 116; exact Calls.grown_of (First_any ((_, _), _) ((_, _), _) _)))
          change Exit.then _ _ Exit.normal _ (grow (wc.drewN nq) osq)
          have hbv : Below wc.heap.size wc (grow (wc.drewN nq) osq) := (show Grown wc (grow (wc.drewN nq) osq) from ⟨nq, osq, rfl⟩).below
          have hh2 := Lib.hid (HH.out.later hbv)
          have HK2 := Lib.hid (HK.out.trans (Kp.of_below hbv))
          clear g0 g1 g2 g3 g4 g5 t0 t1 e2 e3 hbv HH HK hgw hbw
          generalize grow (wc.drewN nq) osq = V at *
          cases hs : gtS ((xa, xb), xc) ((ya, yb), yc)
          · have HS := Lib.hid (HSt.out hs)
            clear hs
            go_wp2
            exact bodyPost_ret (results_none rfl _ _ _) rfl ⟨rfl, N, hh2.out, HP1.out, HS.out, HK2.out⟩
          · have HS := Lib.hid (HSp.out hs)
            clear hs
            go_wp2_with fail
            refine (swap_any hh2.out j p (by rw [HL.out]; have := HJ.out; have := HQN.out; omega) (by rw [HL.out]; exact HQN.out) (by have := HJ.out; omega) (by rw [HL.out]; exact hn)).mono ?_
            rintro e V' ⟨rfl, hh3, hk3⟩
            have HH3 := Lib.hid hh3
            have HK3 := Lib.hid (HK2.out.trans hk3)
            clear hh3 hk3
            go_wp2
            go_roundw
            case rel => exact ⟨p, swap2 N j p, Nat.le_of_lt HQN.out, by go_num, by rw [Hid, swap2_len]; exact HL.out, HH3.out, ⟨HPm.out, HS.out⟩, HK3.out⟩
            case measure => have h1 := HJ.out; have h2 := HQN.out; simp [intOf]; omega
        · have HX := HT
          have hC := HX.out rfl
          obtain ⟨hq0, hqn, hqp, hqf⟩ := hC
          rw [HL.out] at hqn
          have hbw : b < wc.heap.size := HH.out.lt
          have hgw : g < wc.heap.size := (HH.out.blk g 0 (.inr rfl)).2
          have hA := ArrS.of_own HH.out.row
          have c0 := HH.out.h0
          have c1 := HH.out.h1
          unfold fvG at c1
          rw [HL.out] at hA c0
          have t0 := fun n os => cell_grown (n := n) (os := os) (a := ⟨b, 0, none⟩) hbw c0
          have t1 := fun n os => cell_grown (n := n) (os := os) (a := ⟨b, 1, none⟩) hbw c1
          have g0 := fun n os => cell_grown (n := n) (os := os) (a := ⟨g, (p + 1) * 3, none⟩) hgw (hA.c0 (p + 1) (by omega))
          have g1 := fun n os => cell_grown (n := n) (os := os) (a := ⟨g, (p + 1) * 3 + 1, none⟩) hgw (hA.c1 (p + 1) (by omega))
          have g2 := fun n os => cell_grown (n := n) (os := os) (a := ⟨g, (p + 1) * 3 + 2, none⟩) hgw (hA.c2 (p + 1) (by omega))
          have g3 := fun n os => cell_grown (n := n) (os := os) (a := ⟨g, j * 3, none⟩) hgw (hA.c0 j (by omega))
          have g4 := fun n os => cell_grown (n := n) (os := os) (a := ⟨g, j * 3 + 1, none⟩) hgw (hA.c1 j (by omega))
          have g5 := fun n os => cell_grown (n := n) (os := os) (a := ⟨g, j * 3 + 2, none⟩) hgw (hA.c2 j (by omega))
          have HSt : Hid (gtS (spAt N (p + 1)) (spAt N j) = false → HeapOK gtS N) := Lib.hid fun e => HP.out.2.stop ordG (HX.out rfl) e
          have HSp : Hid (gtS (spAt N (p + 1)) (spAt N j) = true → DownBut gtS (swap2 N j (p + 1)) (p + 1)) := Lib.hid fun e => HP.out.2.step ordG (HX.out rfl) e
          have HPm : Hid ((swap2 N j (p + 1)).Perm M) := Lib.hid ((swap2_perm N j (p + 1) (by rw [HL.out]; omega) (by rw [HL.out]; omega)).trans HP.out.1)
          have HP1 := Lib.hid HP.out.1
          clear hA c0 c1 HP HT HE HX hqf
          obtain ⟨x, hx⟩ : ∃ x, spAt N (p + 1) = x := ⟨_, rfl⟩
          obtain ⟨y, hy⟩ : ∃ y, spAt N j = y := ⟨_, rfl⟩
          rw [hx] at g0 g1 g2 HSt HSp
          rw [hy] at g3 g4 g5 HSt HSp
          obtain ⟨⟨xa, xb⟩, xc⟩ := x
          obtain ⟨⟨ya, yb⟩, yc⟩ := y
          simp only at g0 g1 g2 g3 g4 g5
          clear hx hy
          have k1 : (0 : Int) ≤ (j : Int) := by omega
          have k2 : (j : Int) < (n : Int) := by omega
          have k3 : ((p : Int) + 1) < (n : Int) := by omega
          have k4 : (0 : Int) ≤ ((p : Int) + 1) := by omega
          have e2 : (((p : Int) + 1)).toNat = (p + 1) := by omega
          have e3 : ((j : Int)).toNat = j := Int.toNat_natCast _
          have hjq : j < (p + 1) := by omega
          have HJ := Lib.hid hjq
          have HQN := Lib.hid hqn
          clear hqp hjq hqn hq0
          go_upto_region 5 with (fail)
          go_quiet_grown ((go_at_call 116; exact Calls.grown_of (First_any ((_, _), _) ((_, _), _) _)))
          change Exit.then _ _ Exit.normal _ (grow (wc.drewN nq) osq)
          have hbv : Below wc.heap.size wc (grow (wc.drewN nq) osq) := (show Grown wc (grow (wc.drewN nq) osq) from ⟨nq, osq, rfl⟩).below
          have hh2 := Lib.hid (HH.out.later hbv)
          have HK2 := Lib.hid (HK.out.trans (Kp.of_below hbv))
          clear g0 g1 g2 g3 g4 g5 t0 t1 e2 e3 hbv HH HK hgw hbw
          generalize grow (wc.drewN nq) osq = V at *
          cases hs : gtS ((xa, xb), xc) ((ya, yb), yc)
          · have HS := Lib.hid (HSt.out hs)
            clear hs
            go_wp2
            exact bodyPost_ret (results_none rfl _ _ _) rfl ⟨rfl, N, hh2.out, HP1.out, HS.out, HK2.out⟩
          · have HS := Lib.hid (HSp.out hs)
            clear hs
            go_wp2_with fail
            refine (swap_any hh2.out j (p + 1) (by rw [HL.out]; have := HJ.out; have := HQN.out; omega) (by rw [HL.out]; exact HQN.out) (by have := HJ.out; omega) (by rw [HL.out]; exact hn)).mono ?_
            rintro e V' ⟨rfl, hh3, hk3⟩
            have HH3 := Lib.hid hh3
            have HK3 := Lib.hid (HK2.out.trans hk3)
            clear hh3 hk3
            go_wp2
            go_roundw
            case rel => exact ⟨(p + 1), swap2 N j (p + 1), Nat.le_of_lt HQN.out, by go_num, by rw [Hid, swap2_len]; exact HL.out, HH3.out, ⟨HPm.out, HS.out⟩, HK3.out⟩
            case measure => have h1 := HJ.out; have h2 := HQN.out; simp [intOf]; omega
    · have p1 : (n : Int) ≤ (p : Int) := by omega
      have HS := Lib.hid (HP.out.2.none (by omega))
      clear hL hp
      go_wp2
      exact bodyPost_ret (results_none rfl _ _ _) rfl ⟨rfl, N, HH.out, HP.out.1, HS.out, HK.out⟩

end Go.Proofs.Ytajmnhnepoomjaa
