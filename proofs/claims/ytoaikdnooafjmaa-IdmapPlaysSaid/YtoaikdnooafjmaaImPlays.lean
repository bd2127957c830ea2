/- A map of ids tells what the document says (IdmapPlays), walked. -/
import Derived.Test.YtoaikdnooafjmaaImLives
import Derived.Test.YtoaikdnooafjmaaImPlM
import Derived.Test.YtoaikdnooafjmaaRefIm3
import Derived.Test.YtoaikdnooafjmaaLawDeed
import Derived.Test.YtoaikdnooafjmaaHeldN
import Derived.Deep.CutBlock
namespace Go.Proofs.Ytoaikdnooafjmaa
open Go.RowKit

section
variable {o : Oper} {a : Act} {W : World} {s t : Operand}
theorem np_loadS {b k : Nat} {A : Option Addr} {n c : Nat} (ho : o.op = .load 113 s) (e : a.eval s = .pointer (some ⟨b, k, none⟩)) (h : W.cell? ⟨b, k, none⟩ = some (.slice A n c)) : (execOp a.eval o).run Try.prog W = .ok (.value (.slice A n c)) W := by
  simp only [execOp, ho, e]
  go_simp
theorem np_loadI {b k : Nat} {i : Int} (ho : o.op = .load 3 s) (e : a.eval s = .pointer (some ⟨b, k, none⟩)) (h : W.cell? ⟨b, k, none⟩ = some (.int .i64 i)) : (execOp a.eval o).run Try.prog W = .ok (.value (.int .i64 i)) W := by
  simp only [execOp, ho, e]
  go_simp
theorem np_loadU {b k : Nat} {i : Int} (ho : o.op = .load 118 s) (e : a.eval s = .pointer (some ⟨b, k, none⟩)) (h : W.cell? ⟨b, k, none⟩ = some (.int .u64 i)) : (execOp a.eval o).run Try.prog W = .ok (.value (.int .u64 i)) W := by
  simp only [execOp, ho, e]
  go_simp
theorem np_loadM {b : Nat} {i j : Int} {A : Option Addr} {n c : Nat} (ho : o.op = .load 115 s) (e : a.eval s = .pointer (some ⟨b, 0, none⟩)) (h0 : W.cell? ⟨b, 0, none⟩ = some (.int .i64 i)) (h1 : W.cell? ⟨b, 1, none⟩ = some (.slice A n c)) (h2 : W.cell? ⟨b, 2, none⟩ = some (.int .i64 j)) : (execOp a.eval o).run Try.prog W = .ok (.value (.agg #[.int .i64 i, .slice A n c, .int .i64 j])) W := by
  simp only [execOp, ho, e]
  go_simp
theorem np_neR {x y : Int} (ho : o.op = .binOp .neq 99 s t 99) (e : a.eval s = .agg #[.int .i64 x, .int .i64 y]) (e' : a.eval t = .agg #[.int .i64 x, .int .i64 y]) : (execOp a.eval o).run Try.prog W = .ok (.value (.bool false)) W := by
  simp only [execOp, ho, e, e']
  go_simp
theorem np_neB {b : Bool} (ho : o.op = .binOp .neq 4 s t 4) (e : a.eval s = .bool b) (e' : a.eval t = .bool b) : (execOp a.eval o).run Try.prog W = .ok (.value (.bool false)) W := by
  simp only [execOp, ho, e, e']
  cases b <;> go_simp
theorem np_neI {x : Int} (ho : o.op = .binOp .neq 3 s t 3) (e : a.eval s = .int .i64 x) (e' : a.eval t = .int .i64 x) : (execOp a.eval o).run Try.prog W = .ok (.value (.bool false)) W := by
  simp only [execOp, ho, e, e']
  go_simp
end
theorem imSize_z {w0 w : World} {m B bs n : Nat} {bm : Nat → Nat} {x : IX} {J : Nat → Prop} (h : IJ w0 m B bs bm n x J w) (hn : 1 ≤ n) (s : Int) : Calls Try.prog 87 #[.pointer (some ⟨B, 0, none⟩), .int .i64 s] w fun e w' => e = .returned (.int .i64 ((cntZ n x.L s : Nat) : Int)) ∧ w = w' := by
  by_cases hs : s < 0 ∨ (n : Int) ≤ s
  · rw [cntZ_out hn x.L hs]
    exact imSize_ij_out h hs
  · obtain ⟨i, rfl⟩ : ∃ i : Nat, s = (i : Int) := ⟨s.toNat, by omega⟩
    rw [cntZ_in]
    exact imSize_ij h (by omega)
def ipDs (B : Nat) (E : Nat) (X : Nat) (A4 : Option Addr) (c4 : Nat) (x : IX) (n : Nat) (id : Int) (gs : Int) (gg : Int) (shard : Int) (hh : Bool) : List DN := [.c (.bool true), .c (.bool false), .c (.bool false), .c (.agg #[.int .i64 gs, .int .i64 gg]), .c (.agg #[.int .i64 gs, .int .i64 gg]), .c (.bool false), .c (.bool false), .c (.bool false), .c (.bool hh), .c (.bool hh), .c (.bool false), .c (.bool false), .c (.bool false), .c (.pointer (some ⟨B, 0, none⟩)), .c (.int .i64 (x.L.length : Int)), .c (.pointer (some ⟨X, 1, none⟩)), .c (.slice A4 x.L.length c4), .c (.int .i64 (x.L.length : Int)), .c (.bool false), .c (.bool false), .c (.bool false), .c (.pointer (some ⟨B, 0, none⟩)), .c (.int .i64 (x.v : Int)), .c (.pointer (some ⟨X, 2, none⟩)), .c (.int .i64 (x.v : Int)), .c (.bool false), .c (.bool false), .c (.bool false), .c (.pointer (some ⟨B, 0, none⟩)), .c (.pointer (some ⟨E, 1, none⟩)), .c (.int .u64 id), .c (.int .i64 ((shI n id : Nat) : Int)), .c (.agg #[.int .i64 (n : Int), .slice A4 x.L.length c4, .int .i64 (x.v : Int)]), .c (.pointer (some ⟨E, 1, none⟩)), .c (.int .u64 id), .c (.int .i64 ((shI n id : Nat) : Int)), .c (.bool false), .c (.bool false), .c (.bool false), .c (.pointer (some ⟨B, 0, none⟩)), .c (.int .i64 shard), .c (.int .i64 ((cntZ n x.L shard : Nat) : Int)), .c (.agg #[.int .i64 (n : Int), .slice A4 x.L.length c4, .int .i64 (x.v : Int)]), .c (.int .i64 shard), .c (.int .i64 ((cntZ n x.L shard : Nat) : Int)), .c (.bool false), .c (.bool false), .c (.bool false), .c (.pointer (some ⟨B, 0, none⟩)), .nm x.L, .c (.pointer (some ⟨X, 1, none⟩)), .c (.slice A4 x.L.length c4), .c (.bool true), .c (.bool false), .c (.bool false)]
def MHalf (w0 : World) (m B cs0 : Nat) (cm : Nat → Nat) (n X : Nat) (D : List (Nat × List Value)) (w : World) : Prop :=
  ∃ (y : IX) (A : Option Addr) (l c v : Nat), MP w0 m B cs0 cm n X y y (.agg #[.int .i64 (n : Int), .slice A l c, .int .i64 (v : Int)]) [.int .i64 (n : Int), .slice A l c, .int .i64 (v : Int)] D w
set_option maxRecDepth 100000 in
set_option maxHeartbeats 16000000 in
theorem IdmapPlays_walk (shards : Int) (A : Option Addr) (zs : List DeedI) (c : Nat) (shard : Int) (w : World) (hA : RdDI w w.heap.size A zs) (hI : ∀ x ∈ zs, IsU x.2.1) (hl : zs.length ≤ 9223372036854775807) (_ : zs.length ≤ c) (_ : A = none → c = 0) :
    Calls Try.prog 7 #[.int .i64 shards, .slice A zs.length c, .int .i64 shard] w fun e w' => e = .returned (.bool true) ∧ Below w.heap.size w w' := by
  have hmix : Try.prog.follows .mixedOrders = true := by kernel_rfl
  by_cases hlong : 60 < zs.length
  · have hi : (60 : Int) < (zs.length : Int) := by omega
    clear hA hI
    go_enter Try.func7, Try.ntmps7
    go_wp2_with fail
    refine (im_lives_any _).mono ?_
    rintro e w1 ⟨rfl, hb1⟩
    go_wp2
    go_ret
    exact ⟨rfl, hb1⟩
  have hi : ¬ (60 : Int) < (zs.length : Int) := by omega
  by_cases hbad : shards < 1 ∨ 64 < shards
  · have HN := Lib.hid (fun W => imNew_not shards hbad W)
    have HN2 := Lib.hid (fun W => RmNew_not shards hbad W)
    clear hA hI hbad
    go_enter Try.func7, Try.ntmps7
    go_wp2_with fail
    refine (HN.out _).mono ?_
    rintro e w1 ⟨rfl, rfl⟩
    go_wp2_with fail
    refine (HN2.out _).mono ?_
    rintro e w2 ⟨rfl, hb2⟩
    have HB2 := Lib.hid (Below.next hb2 (below_new w2 (.cells #[.int .i64 0, .slice none 0 0, .int .i64 0] 115)))
    clear hb2
    go_wp2_with fail
    refine (im_lives_any _).mono ?_
    rintro e w3 ⟨rfl, hb3⟩
    have HB3 := Lib.hid (Below.next HB2.out hb3)
    clear hb3 HB2
    go_wp2
    go_ret
    exact ⟨rfl, HB3.out⟩
  obtain ⟨n, rfl⟩ : ∃ n : Nat, shards = (n : Int) := ⟨shards.toNat, by omega⟩
  have hN1 : 1 ≤ n := by omega
  have hN2 : n ≤ 64 := by omega
  have HI := Lib.hid hI
  clear hI hbad
  go_enter Try.func7, Try.ntmps7
  go_wp2_with fail
  refine (imNew_ij n hN1 hN2 w).mono ?_
  rintro e w2 ⟨B, cs0, cm, rfl, h2⟩
  go_wp2_with fail
  refine (RmNew_any n hN1 hN2 w2).mono ?_
  rintro e w3 ⟨rfl, hb3⟩
  have H3 : MP w 0 B cs0 cm n w3.heap.size (imNew n) (imNew n) (mV n none 0 0 0) [.int .i64 (n : Int), .slice none 0 0, .int .i64 0] [] (w3.alloc (.cells #[.int .i64 (n : Int), .slice none 0 0, .int .i64 0] 115)) := by
    have hb := below_new w3 (.cells #[.int .i64 (n : Int), .slice none 0 0, .int .i64 0] 115)
    have hnv : ∀ b, ¬ VBm (mV n none 0 0 0) b := fun b h => by
      obtain ⟨o, e⟩ := VBm_mV.1 h
      cases e
    refine ⟨(h2.later hb3).write (M := fun _ => False) (Chg.of_below hb) (fun _ e => e.elim) (fun b e => ?_), ⟨none, 0, rfl, fun i e he => (by cases he), fun b o e => (by cases e)⟩, Bx.new w3 [.int .i64 (n : Int), .slice none 0 0, .int .i64 0] _, fun p hp => (by cases hp), hnv _⟩
    rcases e with (e | ⟨p, hp, _⟩) | e
    · exact .inr ⟨by omega, by rw [e]; simp⟩
    · cases hp
    · exact (hnv b e).elim
  have HX : Hid (MHalf w 0 B cs0 cm n w3.heap.size [] (w3.alloc (.cells #[.int .i64 (n : Int), .slice none 0 0, .int .i64 0] 115))) := Lib.hid ⟨imNew n, none, 0, 0, 0, H3⟩
  have HA := Lib.hid hA
  clear h2 hb3 H3 hA
  unfold mV
  go_wp2
  go_loopw [54] (fun i wr => ∃ k : Nat, k ≤ zs.length ∧ i = .int .i64 k ∧ MHalf w k B cs0 cm n w3.heap.size [] wr) (fun i _ => zs.length - (intOf i).toNat)
  case atStart => exact ⟨0, Nat.zero_le _, rfl, HX.out⟩
  case round =>
    clear HX
    obtain ⟨k, hk, rfl, x, A1, l1, c1, v1, hE⟩ := hrel
    generalize hX : w3.heap.size = X at *
    by_cases hlt : k < zs.length
    · obtain ⟨d, hd⟩ : ∃ d, zs[k]? = some d := ⟨_, List.getElem?_eq_getElem hlt⟩
      obtain ⟨b, off, rfl, hbb, q0, q1, q2, q3⟩ := HA.out k d hd
      have hU := HI.out d (List.mem_of_getElem? hd)
      obtain ⟨kd, id, s, g⟩ := d
      simp only at hU q0 q1 q2 q3
      have hbe := hE.below0
      have r0 := (hbe.cell (p := ⟨b, off + k * 4, none⟩) hbb).trans q0
      have r1 := (hbe.cell (p := ⟨b, off + k * 4 + 1, none⟩) hbb).trans q1
      have r2 := (hbe.cell (p := ⟨b, off + k * 4 + 2, none⟩) hbb).trans q2
      have r3 := (hbe.cell (p := ⟨b, off + k * 4 + 3, none⟩) hbb).trans q3
      clear q0 q1 q2 q3 hd hbe
      have hkl : (k : Int) < (zs.length : Int) := by omega
      have hk0 : (0 : Int) ≤ (k : Int) := by omega
      have hk100 : k < 100 := by omega
      have HU := Lib.hid hU
      have hxn := hE.ij.sh
      have HD := Lib.hid (hE.box [.int .i64 kd, .int .u64 id, .int .i64 s, .int .i64 g] 120)
      clear hE hU
      obtain ⟨E, hE⟩ : ∃ E, wr.heap.size = E := ⟨_, rfl⟩
      rw [hE] at HD
      go_upto_block 2 with (fail)
      generalize wr.alloc (.cells #[.int .i64 kd, .int .u64 id, .int .i64 s, .int .i64 g] 120) = W0 at *
      clear r0 r1 r2 r3 hE
      go_cut [13, 54] from 54 to 175 (fun bv iv wc => bv = .bool true ∧ iv = .int .i64 (k : Int) ∧ MHalf w (k + 1) B cs0 cm n X [(E, [.int .i64 kd, .int .u64 id, .int .i64 s, .int .i64 g])] wc)
      case first =>
        have x0 := HD.out.bx.c 0 _ rfl
        have x1 := HD.out.bx.c 1 _ rfl
        have x2 := HD.out.bx.c 2 _ rfl
        have d1 : W0.cell? ⟨E, 1, none⟩ = some (.int .u64 id) := HD.out.cell (p := (E, [.int .i64 kd, .int .u64 id, .int .i64 s, .int .i64 g])) (by simp) 1 rfl
        have d2 : W0.cell? ⟨E, 2, none⟩ = some (.int .i64 s) := HD.out.cell (p := (E, [.int .i64 kd, .int .u64 id, .int .i64 s, .int .i64 g])) (by simp) 2 rfl
        have d3 : W0.cell? ⟨E, 3, none⟩ = some (.int .i64 g) := HD.out.cell (p := (E, [.int .i64 kd, .int .u64 id, .int .i64 s, .int .i64 g])) (by simp) 3 rfl
        by_cases k0 : kd = 0
        · as_aux_lemma =>
          subst k0
          have HDA := Lib.hid (RmPut_any HD.out.rm HD.out.ij.fit (by omega) id s g)
          go_wp2_with fail
          refine HDA.out.mono ?_
          rintro e w4 ⟨V4, rfl, hr4, hb4, hv4⟩

          have hr4' := hr4
          have H4 := Lib.hid (HD.out.doc hb4 hr4 hv4)
          obtain ⟨A4, c4, rfl, _⟩ := hr4
          obtain ⟨y, hy⟩ : ∃ y, imPut x id (s, g) = y := ⟨_, rfl⟩
          rw [hy] at H4
          rw [hy]
          have hyn : y.n = n := by rw [← hy]; exact (imPut_n x id (s, g)).trans hxn
          unfold mV at *
          rw [hyn] at H4
          rw [hyn]
          have HY := Lib.hid hy
          generalize y.L.length = l4 at *
          generalize y.v = v4 at *
          clear hb4 hv4 hr4' HD HDA hy hyn x0 x1 x2 d1 d2 d3

          go_upto_region 16 with (fail)
          have H5 := Lib.hid (H4.out.box [.int .i64 (n : Int), .slice A4 l4 c4, .int .i64 (v4 : Int)] 115)
          obtain ⟨Y, hY⟩ : ∃ Y, w4.heap.size = Y := ⟨_, rfl⟩
          rw [hY] at H5
          rw [hY]
          clear H4 hY
          generalize w4.alloc (.cells #[.int .i64 (n : Int), .slice A4 l4 c4, .int .i64 (v4 : Int)] 115) = W5 at *

          have y0 := H5.out.cell (p := (Y, [.int .i64 (n : Int), .slice A4 l4 c4, .int .i64 (v4 : Int)])) (by simp) 0 rfl
          have y1 := H5.out.cell (p := (Y, [.int .i64 (n : Int), .slice A4 l4 c4, .int .i64 (v4 : Int)])) (by simp) 1 rfl
          have y2 := H5.out.cell (p := (Y, [.int .i64 (n : Int), .slice A4 l4 c4, .int .i64 (v4 : Int)])) (by simp) 2 rfl
          have x0 := H5.out.bx.c 0 _ rfl
          have x1 := H5.out.bx.c 1 _ rfl
          have x2 := H5.out.bx.c 2 _ rfl
          have f0 := H5.out.bx.f 0
          have f1 := H5.out.bx.f 1
          have f2 := H5.out.bx.f 2
          have H6 := Lib.hid (H5.out.setX (.int .i64 (n : Int)) (.slice A4 l4 c4) (.int .i64 (v4 : Int)))
          clear H5
          go_upto_region 17 with (fail)
          generalize ((W5.setCell ⟨X, 0, none⟩ (.int .i64 (n : Int))).setCell ⟨X, 1, none⟩ (.slice A4 l4 c4)).setCell ⟨X, 2, none⟩ (.int .i64 (v4 : Int)) = W6 at *
          clear y0 y1 y2 x0 x1 x2 f0 f1 f2

          have d1 : W6.cell? ⟨E, 1, none⟩ = some (.int .u64 id) := H6.out.cell (p := (E, [.int .i64 0, .int .u64 id, .int .i64 s, .int .i64 g])) (by simp) 1 rfl
          have d2 : W6.cell? ⟨E, 2, none⟩ = some (.int .i64 s) := H6.out.cell (p := (E, [.int .i64 0, .int .u64 id, .int .i64 s, .int .i64 g])) (by simp) 2 rfl
          have d3 : W6.cell? ⟨E, 3, none⟩ = some (.int .i64 g) := H6.out.cell (p := (E, [.int .i64 0, .int .u64 id, .int .i64 s, .int .i64 g])) (by simp) 3 rfl
          have HP := Lib.hid (imPut_ij H6.out.ij (by omega) HU.out s g)
          go_wp2_with fail
          refine HP.out.mono ?_
          rintro e w7 ⟨rfl, hj7, hk7⟩
          have H7 := Lib.hid (H6.out.prog hj7 hk7)
          rw [HY.out] at H7
          clear hj7 hk7 HP H6 HY d1 d2 d3
          generalize imHas x id = ba at *
          have HF : Hid (MHalf w (k + 1) B cs0 cm n X [(E, [.int .i64 0, .int .u64 id, .int .i64 s, .int .i64 g])] w7) := Lib.hid ⟨y, A4, l4, c4, v4, H7.out.sub (fun p hp => by simp at hp; simp [hp])⟩
          clear H7
          go_wp2
          go_meet
          exact ⟨by simp, rfl, HF.out⟩
        by_cases k1 : kd = 1
        · as_aux_lemma =>
          subst k1
          have HDA := Lib.hid (RmDrop_any HD.out.rm HD.out.ij.fit (by omega) id)
          go_wp2_with fail
          refine HDA.out.mono ?_
          rintro e w4 ⟨V4, rfl, hr4, hb4, hv4⟩

          have hr4' := hr4
          have H4 := Lib.hid (HD.out.doc hb4 hr4 hv4)
          obtain ⟨A4, c4, rfl, _⟩ := hr4
          obtain ⟨y, hy⟩ : ∃ y, imDrop x id = y := ⟨_, rfl⟩
          rw [hy] at H4
          rw [hy]
          have hyn : y.n = n := by rw [← hy]; exact (imDrop_n x id).trans hxn
          unfold mV at *
          rw [hyn] at H4
          rw [hyn]
          have HY := Lib.hid hy
          generalize y.L.length = l4 at *
          generalize y.v = v4 at *
          clear hb4 hv4 hr4' HD HDA hy hyn x0 x1 x2 d1 d2 d3

          go_upto_region 20 with (fail)
          have H5 := Lib.hid ((H4.out.box [.int .i64 (n : Int), .slice A4 l4 c4, .int .i64 (v4 : Int)] 115).box [.int .i64 (imGet x id).1, .int .i64 (imGet x id).2] 99)
          rw [World.size_alloc] at H5
          obtain ⟨Y, hY⟩ : ∃ Y, w4.heap.size = Y := ⟨_, rfl⟩
          obtain ⟨R, hR⟩ : ∃ R, w4.heap.size + 1 = R := ⟨_, rfl⟩
          rw [hR, hY] at H5
          rw [hR, hY]
          clear H4 hY hR
          generalize (w4.alloc (.cells #[.int .i64 (n : Int), .slice A4 l4 c4, .int .i64 (v4 : Int)] 115)).alloc (.cells #[.int .i64 (imGet x id).1, .int .i64 (imGet x id).2] 99) = W5 at *

          have y0 := H5.out.cell (p := (Y, [.int .i64 (n : Int), .slice A4 l4 c4, .int .i64 (v4 : Int)])) (by simp) 0 rfl
          have y1 := H5.out.cell (p := (Y, [.int .i64 (n : Int), .slice A4 l4 c4, .int .i64 (v4 : Int)])) (by simp) 1 rfl
          have y2 := H5.out.cell (p := (Y, [.int .i64 (n : Int), .slice A4 l4 c4, .int .i64 (v4 : Int)])) (by simp) 2 rfl
          have x0 := H5.out.bx.c 0 _ rfl
          have x1 := H5.out.bx.c 1 _ rfl
          have x2 := H5.out.bx.c 2 _ rfl
          have f0 := H5.out.bx.f 0
          have f1 := H5.out.bx.f 1
          have f2 := H5.out.bx.f 2
          have H6 := Lib.hid (H5.out.setX (.int .i64 (n : Int)) (.slice A4 l4 c4) (.int .i64 (v4 : Int)))
          clear H5
          go_upto_region 21 with (fail)
          generalize ((W5.setCell ⟨X, 0, none⟩ (.int .i64 (n : Int))).setCell ⟨X, 1, none⟩ (.slice A4 l4 c4)).setCell ⟨X, 2, none⟩ (.int .i64 (v4 : Int)) = W6 at *
          clear y0 y1 y2 x0 x1 x2 f0 f1 f2

          have d1 : W6.cell? ⟨E, 1, none⟩ = some (.int .u64 id) := H6.out.cell (p := (E, [.int .i64 1, .int .u64 id, .int .i64 s, .int .i64 g])) (by simp) 1 rfl
          have HP := Lib.hid (imDrop_ij H6.out.ij (by omega) HU.out)
          go_wp2_with fail
          refine HP.out.mono ?_
          rintro e w7 ⟨rfl, hj7, hk7⟩
          have H7 := Lib.hid ((H6.out.prog hj7 hk7).box [.int .i64 (imGet x id).1, .int .i64 (imGet x id).2] 99)
          rw [HY.out] at H7
          clear hj7 hk7 HP H6 HY d1
          go_upto_region 22 with (fail)
          obtain ⟨R2, hR2⟩ : ∃ R2, w7.heap.size = R2 := ⟨_, rfl⟩
          rw [hR2] at H7
          rw [hR2]
          clear hR2
          generalize w7.alloc (.cells #[.int .i64 (imGet x id).1, .int .i64 (imGet x id).2] 99) = W8 at *
          have p0 : W8.cell? ⟨R2, 0, none⟩ = some (.int .i64 (imGet x id).1) := H7.out.cell (p := (R2, [.int .i64 (imGet x id).1, .int .i64 (imGet x id).2])) (by simp) 0 rfl
          have p1 : W8.cell? ⟨R2, 1, none⟩ = some (.int .i64 (imGet x id).2) := H7.out.cell (p := (R2, [.int .i64 (imGet x id).1, .int .i64 (imGet x id).2])) (by simp) 1 rfl
          have p2 : W8.cell? ⟨R, 0, none⟩ = some (.int .i64 (imGet x id).1) := H7.out.cell (p := (R, [.int .i64 (imGet x id).1, .int .i64 (imGet x id).2])) (by simp) 0 rfl
          have p3 : W8.cell? ⟨R, 1, none⟩ = some (.int .i64 (imGet x id).2) := H7.out.cell (p := (R, [.int .i64 (imGet x id).1, .int .i64 (imGet x id).2])) (by simp) 1 rfl
          have HF : Hid (MHalf w (k + 1) B cs0 cm n X [(E, [.int .i64 1, .int .u64 id, .int .i64 s, .int .i64 g])] W8) := Lib.hid ⟨y, A4, l4, c4, v4, H7.out.sub (fun p hp => by simp at hp; simp [hp])⟩
          generalize imGet x id = gr at *
          obtain ⟨gs, gg⟩ := gr
          generalize imHas x id = ba at *
          clear H7
          go_wp2
          go_meet
          exact ⟨by simp, rfl, HF.out⟩
        · as_aux_lemma =>
          have k0 : (kd == 0) = false := by simpa using k0
          have k1 : (kd == 1) = false := by simpa using k1
          have HF : Hid (MHalf w (k + 1) B cs0 cm n X [(E, [.int .i64 kd, .int .u64 id, .int .i64 s, .int .i64 g])] W0) := Lib.hid ⟨x, _, _, _, _, HD.out.more (Nat.le_succ k)⟩
          clear HD x0 x1 x2 d1 d2 d3
          go_wp2
          go_meet
          exact ⟨rfl, rfl, HF.out⟩
      case rest =>
        obtain ⟨rfl, rfl, x, A4, l4, c4, v4, hM⟩ := hcut
        obtain ⟨A5, c5, he5, hr5, _⟩ := hM.rm
        have hE5 : l4 = x.L.length ∧ v4 = x.v ∧ A4 = A5 ∧ c4 = c5 := by
          unfold mV at he5
          injection he5 with he5
          injection he5 with he5
          injection he5 with _ he5
          injection he5 with q1 he5
          injection he5 with q2 _
          injection q1 with q3 q4 q5
          injection q2 with _ q2
          exact ⟨q4, by omega, q3, q5⟩
        obtain ⟨rfl, rfl, rfl, rfl⟩ := hE5
        have HR5 := Lib.hid hr5
        have HLN : Hid (x.L.length ≤ 9223372036854775807) := Lib.hid (by have := hM.ij.fit.len; omega)
        have HL9 : Hid (x.L.length ≤ 100000) := Lib.hid (by have := hM.ij.fit.len; omega)
        have HK : Hid (k + 1 < 100000) := Lib.hid (by omega)
        have HN1 : Hid (1 ≤ n) := Lib.hid hN1
        have HM := Lib.hid hM
        clear hM he5 hr5 HD hxn
        have d1 : wc.cell? ⟨E, 1, none⟩ = some (.int .u64 id) := HM.out.cell (p := (E, [.int .i64 kd, .int .u64 id, .int .i64 s, .int .i64 g])) (by simp) 1 rfl
        have HG1 := Lib.hid (imGet_ij HM.out.ij HU.out)
        go_wp2_with fail
        refine HG1.out.mono ?_
        rintro e w4 ⟨rfl, hj4, hb4⟩
        have H5 := Lib.hid ((HM.out.later hb4).box [.int .i64 (imGet x id).1, .int .i64 (imGet x id).2] 99)
        have HRA := Lib.hid (HR5.out.below (Below.next hb4 (below_new w4 (.cells #[.int .i64 (imGet x id).1, .int .i64 (imGet x id).2] 99))))
        have HG2 := Lib.hid (RmGet_any H5.out.rm HL9.out id)
        clear hj4 hb4 HM HG1 d1 HR5
        go_upto_region 24 with (fail)
        generalize imGet x id = gr at *
        obtain ⟨gs, gg⟩ := gr
        generalize imHas x id = hh at *
        obtain ⟨R1, hR1⟩ : ∃ R1, w4.heap.size = R1 := ⟨_, rfl⟩
        rw [hR1] at H5
        rw [hR1]
        clear hR1
        generalize w4.alloc (.cells #[.int .i64 gs, .int .i64 gg] 99) = W5 at *
        have d1 : W5.cell? ⟨E, 1, none⟩ = some (.int .u64 id) := H5.out.cell (p := (E, [.int .i64 kd, .int .u64 id, .int .i64 s, .int .i64 g])) (by simp) 1 rfl
        have x0 := H5.out.bx.c 0 _ rfl
        have x1 := H5.out.bx.c 1 _ rfl
        have x2 := H5.out.bx.c 2 _ rfl
        go_wp2_with fail
        refine HG2.out.mono ?_
        rintro e w6 ⟨rfl, hb6⟩
        have H7 := Lib.hid ((H5.out.later hb6).box [.int .i64 gs, .int .i64 gg] 99)
        have HRB := Lib.hid (HRA.out.below (Below.next hb6 (below_new w6 (.cells #[.int .i64 gs, .int .i64 gg] 99))))
        clear hb6 HG2 H5 HRA d1 x0 x1 x2
        go_upto_region 25 with (fail)
        obtain ⟨R2, hR2⟩ : ∃ R2, w6.heap.size = R2 := ⟨_, rfl⟩
        rw [hR2] at H7
        rw [hR2]
        clear hR2
        generalize w6.alloc (.cells #[.int .i64 gs, .int .i64 gg] 99) = V1 at *
        have HUM : ∀ W, Below V1.drew.heap.size V1.drew W → MP w (k + 1) B cs0 cm n X x x (.agg #[.int .i64 (n : Int), .slice A4 x.L.length c4, .int .i64 (x.v : Int)]) [.int .i64 (n : Int), .slice A4 x.L.length c4, .int .i64 (x.v : Int)] [(R2, [.int .i64 gs, .int .i64 gg]), (R1, [.int .i64 gs, .int .i64 gg]), (E, [.int .i64 kd, .int .u64 id, .int .i64 s, .int .i64 g])] W := fun W hb => H7.out.later (((Drawn.refl.step 1).below _).trans hb)
        have HRD : Hid (∀ W, Below V1.drew.heap.size V1.drew W → RdN W 0 A4 x.L) := Lib.hid fun W hb => HRB.out.below (((Drawn.refl.step 1).below _).trans hb)
        have HX0 : Hid (∀ W, Below V1.drew.heap.size V1.drew W → W.cell? ⟨X, 0, none⟩ = some (.int .i64 (n : Int))) := Lib.hid fun W hb => (HUM W hb).bx.c 0 _ rfl
        have HX1 : Hid (∀ W, Below V1.drew.heap.size V1.drew W → W.cell? ⟨X, 1, none⟩ = some (.slice A4 x.L.length c4)) := Lib.hid fun W hb => (HUM W hb).bx.c 1 _ rfl
        have HX2 : Hid (∀ W, Below V1.drew.heap.size V1.drew W → W.cell? ⟨X, 2, none⟩ = some (.int .i64 (x.v : Int))) := Lib.hid fun W hb => (HUM W hb).bx.c 2 _ rfl
        have HE1 : Hid (∀ W, Below V1.drew.heap.size V1.drew W → W.cell? ⟨E, 1, none⟩ = some (.int .u64 id)) := Lib.hid fun W hb => (HUM W hb).cell (p := (E, [.int .i64 kd, .int .u64 id, .int .i64 s, .int .i64 g])) (by simp) 1 rfl
        have HC1 : Hid (∀ W, Below V1.drew.heap.size V1.drew W → W.cell? ⟨R1, 0, none⟩ = some (.int .i64 gs) ∧ W.cell? ⟨R1, 1, none⟩ = some (.int .i64 gg)) := Lib.hid fun W hb => ⟨(HUM W hb).cell (p := (R1, [.int .i64 gs, .int .i64 gg])) (by simp) 0 rfl, (HUM W hb).cell (p := (R1, [.int .i64 gs, .int .i64 gg])) (by simp) 1 rfl⟩
        have HC2 : Hid (∀ W, Below V1.drew.heap.size V1.drew W → W.cell? ⟨R2, 0, none⟩ = some (.int .i64 gs) ∧ W.cell? ⟨R2, 1, none⟩ = some (.int .i64 gg)) := Lib.hid fun W hb => ⟨(HUM W hb).cell (p := (R2, [.int .i64 gs, .int .i64 gg])) (by simp) 0 rfl, (HUM W hb).cell (p := (R2, [.int .i64 gs, .int .i64 gg])) (by simp) 1 rfl⟩
        clear H7 HRB
        refine region_held 177 hmix rfl (VN (ipDs B E X A4 c4 x n id gs gg shard hh)) (VN_later _) (by kernel_rfl) ?_ ?_
        rotate_left 1
        · intro a' W h
          have e0 : a'.eval (.tmp 174) = .bool false := h.at_ 54 174 rfl
          have hbW : Below V1.drew.heap.size V1.drew W := h.hb
          obtain ⟨g', hg', hge⟩ := h.frame [120, 121, 122, 123, 124, 125, 126, 127, 128, 129, 130, 131, 132, 133, 134, 135, 136, 137, 138, 139, 140, 141, 142, 143, 144, 145, 146, 147, 148, 149, 150, 151, 152, 153, 154, 155, 156, 157, 158, 159, 160, 161, 162, 163, 164, 165, 166, 167, 168, 169, 170, 171, 172, 173, 174] rfl
          rw [hge 174] at e0
          clear h hge
          subst hg'
          simp only [List.foldl_cons, List.foldl_nil, List.setIfInBounds_toArray, List.set_cons_zero, List.set_cons_succ, e0]
          have HQ := Lib.hid (HUM W hbW)
          clear HUM HRD HX0 HX1 HX2 HE1 HC1 HC2 e0 hbW
          go_wp2
          go_roundw
          case rel => exact ⟨k + 1, by omega, by go_num, x, A4, _, c4, _, HQ.out.sub (fun p hp => by cases hp)⟩
          case measure => simp [intOf]; omega
        refine ⟨?_, ?_, ?_, ?_, ?_, ?_, ?_, ?_, ?_, ?_, ?_, ?_, ?_, ?_, ?_, ?_, ?_, ?_, ?_, ?_, ?_, ?_, ?_, ?_, ?_, ?_, ?_, ?_, ?_, ?_, ?_, ?_, ?_, ?_, ?_, ?_, ?_, ?_, ?_, ?_, ?_, ?_, ?_, ?_, ?_, ?_, ?_, ?_, ?_, ?_, ?_, ?_, ?_, ?_, ?_, trivial⟩
        · intro a W hb ho hg
          rw [if_pos (nw_none rfl)]
          have e : a.eval (.tmp 13) = .bool true := ho 13 rfl
          exact n_move rfl e rfl
        · intro a W hb ho hg
          rw [if_pos (nw_none rfl)]
          have e : a.eval (.tmp 120) = .bool true := hg 0 120 rfl rfl
          exact n_not rfl e rfl
        · intro a W hb ho hg
          rw [if_pos (nw_none rfl)]
          have e : a.eval (.tmp 121) = .bool false := hg 1 121 rfl rfl
          exact n_move rfl e rfl
        · intro a W hb ho hg
          have eg : a.eval (.tmp 122) = .bool false := hg 2 122 rfl rfl
          rw [if_pos (nw_some rfl rfl eg)]
          have e : a.eval (.tmp 21) = .pointer (some ⟨R1, 0, none⟩) := ho 21 rfl
          exact n_run (nr_load rfl e (HC1.out W hb)) rfl
        · intro a W hb ho hg
          have eg : a.eval (.tmp 122) = .bool false := hg 2 122 rfl rfl
          rw [if_pos (nw_some rfl rfl eg)]
          have e : a.eval (.tmp 23) = .pointer (some ⟨R2, 0, none⟩) := ho 23 rfl
          exact n_run (nr_load rfl e (HC2.out W hb)) rfl
        · intro a W hb ho hg
          have eg : a.eval (.tmp 122) = .bool false := hg 2 122 rfl rfl
          rw [if_pos (nw_some rfl rfl eg)]
          have e : a.eval (.tmp 123) = .agg #[.int .i64 gs, .int .i64 gg] := hg 3 123 rfl rfl
          have f : a.eval (.tmp 124) = .agg #[.int .i64 gs, .int .i64 gg] := hg 4 124 rfl rfl
          exact n_run (np_neR rfl e f) rfl
        · intro a W hb ho hg
          rw [if_pos (nw_none rfl)]
          have e : a.eval (.tmp 122) = .bool false := hg 2 122 rfl rfl
          have f : a.eval (.tmp 125) = .bool false := hg 5 125 rfl rfl
          exact n_pick rfl e (fun h => by cases h) (fun _ => f) rfl
        · intro a W hb ho hg
          rw [if_pos (nw_none rfl)]
          have e : a.eval (.tmp 126) = .bool false := hg 6 126 rfl rfl
          exact n_move rfl e rfl
        · intro a W hb ho hg
          have eg : a.eval (.tmp 127) = .bool false := hg 7 127 rfl rfl
          rw [if_pos (nw_some rfl rfl eg)]
          have e : a.eval (.tmp 22) = .bool hh := ho 22 rfl
          exact n_move rfl e rfl
        · intro a W hb ho hg
          have eg : a.eval (.tmp 127) = .bool false := hg 7 127 rfl rfl
          rw [if_pos (nw_some rfl rfl eg)]
          have e : a.eval (.tmp 24) = .bool hh := ho 24 rfl
          exact n_move rfl e rfl
        · intro a W hb ho hg
          have eg : a.eval (.tmp 127) = .bool false := hg 7 127 rfl rfl
          rw [if_pos (nw_some rfl rfl eg)]
          have e : a.eval (.tmp 128) = .bool hh := hg 8 128 rfl rfl
          have f : a.eval (.tmp 129) = .bool hh := hg 9 129 rfl rfl
          exact n_run (np_neB rfl e f) rfl
        · intro a W hb ho hg
          rw [if_pos (nw_none rfl)]
          have e : a.eval (.tmp 127) = .bool false := hg 7 127 rfl rfl
          have f : a.eval (.tmp 130) = .bool false := hg 10 130 rfl rfl
          exact n_pick rfl e (fun h => by cases h) (fun _ => f) rfl
        · intro a W hb ho hg
          rw [if_pos (nw_none rfl)]
          have e : a.eval (.tmp 131) = .bool false := hg 11 131 rfl rfl
          exact n_move rfl e rfl
        · intro a W hb ho hg
          have eg : a.eval (.tmp 132) = .bool false := hg 12 132 rfl rfl
          rw [if_pos (nw_some rfl rfl eg)]
          have e : a.eval (.tmp 7) = .pointer (some ⟨B, 0, none⟩) := ho 7 rfl
          exact n_move rfl e rfl
        · intro a W hb ho hg
          have eg : a.eval (.tmp 132) = .bool false := hg 12 132 rfl rfl
          rw [if_pos (nw_some rfl rfl eg)]
          have e0 : a.eval (.tmp 133) = .pointer (some ⟨B, 0, none⟩) := hg 13 133 rfl rfl
          exact n_call (f := 83) rfl (by simp only [List.map_toArray, List.map_cons, List.map_nil, e0] <;> rfl) (by go_simp) (imLen_ij (HUM W hb).ij HK.out) (fun e W' h => ⟨_, h.1, by rw [← h.2]; exact Below.refl _ _, rfl⟩)
        · intro a W hb ho hg
          have eg : a.eval (.tmp 132) = .bool false := hg 12 132 rfl rfl
          rw [if_pos (nw_some rfl rfl eg)]
          have e : a.eval (.tmp 9) = .pointer (some ⟨X, 0, none⟩) := ho 9 rfl
          exact n_run (v := .pointer (some ⟨X, 1, none⟩)) (by simp only [execOp, e]; go_simp) rfl
        · intro a W hb ho hg
          have eg : a.eval (.tmp 132) = .bool false := hg 12 132 rfl rfl
          rw [if_pos (nw_some rfl rfl eg)]
          have e : a.eval (.tmp 135) = .pointer (some ⟨X, 1, none⟩) := hg 15 135 rfl rfl
          exact n_run (np_loadS rfl e (HX1.out W hb)) rfl
        · intro a W hb ho hg
          have eg : a.eval (.tmp 132) = .bool false := hg 12 132 rfl rfl
          rw [if_pos (nw_some rfl rfl eg)]
          have e : a.eval (.tmp 136) = .slice A4 x.L.length c4 := hg 16 136 rfl rfl
          exact n_run (nr_len rfl e) rfl
        · intro a W hb ho hg
          have eg : a.eval (.tmp 132) = .bool false := hg 12 132 rfl rfl
          rw [if_pos (nw_some rfl rfl eg)]
          have e : a.eval (.tmp 134) = .int .i64 (x.L.length : Int) := hg 14 134 rfl rfl
          have f : a.eval (.tmp 137) = .int .i64 (x.L.length : Int) := hg 17 137 rfl rfl
          exact n_run (np_neI rfl e f) rfl
        · intro a W hb ho hg
          rw [if_pos (nw_none rfl)]
          have e : a.eval (.tmp 132) = .bool false := hg 12 132 rfl rfl
          have f : a.eval (.tmp 138) = .bool false := hg 18 138 rfl rfl
          exact n_pick rfl e (fun h => by cases h) (fun _ => f) rfl
        · intro a W hb ho hg
          rw [if_pos (nw_none rfl)]
          have e : a.eval (.tmp 139) = .bool false := hg 19 139 rfl rfl
          exact n_move rfl e rfl
        · intro a W hb ho hg
          have eg : a.eval (.tmp 140) = .bool false := hg 20 140 rfl rfl
          rw [if_pos (nw_some rfl rfl eg)]
          have e : a.eval (.tmp 7) = .pointer (some ⟨B, 0, none⟩) := ho 7 rfl
          exact n_move rfl e rfl
        · intro a W hb ho hg
          have eg : a.eval (.tmp 140) = .bool false := hg 20 140 rfl rfl
          rw [if_pos (nw_some rfl rfl eg)]
          have e0 : a.eval (.tmp 141) = .pointer (some ⟨B, 0, none⟩) := hg 21 141 rfl rfl
          exact n_call (f := 84) rfl (by simp only [List.map_toArray, List.map_cons, List.map_nil, e0] <;> rfl) (by go_simp) (imVer_ij (HUM W hb).ij) (fun e W' h => ⟨_, h.1, by rw [← h.2]; exact Below.refl _ _, rfl⟩)
        · intro a W hb ho hg
          have eg : a.eval (.tmp 140) = .bool false := hg 20 140 rfl rfl
          rw [if_pos (nw_some rfl rfl eg)]
          have e : a.eval (.tmp 9) = .pointer (some ⟨X, 0, none⟩) := ho 9 rfl
          exact n_run (v := .pointer (some ⟨X, 2, none⟩)) (by simp only [execOp, e]; go_simp) rfl
        · intro a W hb ho hg
          have eg : a.eval (.tmp 140) = .bool false := hg 20 140 rfl rfl
          rw [if_pos (nw_some rfl rfl eg)]
          have e : a.eval (.tmp 143) = .pointer (some ⟨X, 2, none⟩) := hg 23 143 rfl rfl
          exact n_run (np_loadI rfl e (HX2.out W hb)) rfl
        · intro a W hb ho hg
          have eg : a.eval (.tmp 140) = .bool false := hg 20 140 rfl rfl
          rw [if_pos (nw_some rfl rfl eg)]
          have e : a.eval (.tmp 142) = .int .i64 (x.v : Int) := hg 22 142 rfl rfl
          have f : a.eval (.tmp 144) = .int .i64 (x.v : Int) := hg 24 144 rfl rfl
          exact n_run (np_neI rfl e f) rfl
        · intro a W hb ho hg
          rw [if_pos (nw_none rfl)]
          have e : a.eval (.tmp 140) = .bool false := hg 20 140 rfl rfl
          have f : a.eval (.tmp 145) = .bool false := hg 25 145 rfl rfl
          exact n_pick rfl e (fun h => by cases h) (fun _ => f) rfl
        · intro a W hb ho hg
          rw [if_pos (nw_none rfl)]
          have e : a.eval (.tmp 146) = .bool false := hg 26 146 rfl rfl
          exact n_move rfl e rfl
        · intro a W hb ho hg
          have eg : a.eval (.tmp 147) = .bool false := hg 27 147 rfl rfl
          rw [if_pos (nw_some rfl rfl eg)]
          have e : a.eval (.tmp 7) = .pointer (some ⟨B, 0, none⟩) := ho 7 rfl
          exact n_move rfl e rfl
        · intro a W hb ho hg
          have eg : a.eval (.tmp 147) = .bool false := hg 27 147 rfl rfl
          rw [if_pos (nw_some rfl rfl eg)]
          have e : a.eval (.tmp 12) = .pointer (some ⟨E, 0, none⟩) := ho 12 rfl
          exact n_run (v := .pointer (some ⟨E, 1, none⟩)) (by simp only [execOp, e]; go_simp) rfl
        · intro a W hb ho hg
          have eg : a.eval (.tmp 147) = .bool false := hg 27 147 rfl rfl
          rw [if_pos (nw_some rfl rfl eg)]
          have e : a.eval (.tmp 149) = .pointer (some ⟨E, 1, none⟩) := hg 29 149 rfl rfl
          exact n_run (np_loadU rfl e (HE1.out W hb)) rfl
        · intro a W hb ho hg
          have eg : a.eval (.tmp 147) = .bool false := hg 27 147 rfl rfl
          rw [if_pos (nw_some rfl rfl eg)]
          have e0 : a.eval (.tmp 148) = .pointer (some ⟨B, 0, none⟩) := hg 28 148 rfl rfl
          have e1 : a.eval (.tmp 150) = .int .u64 id := hg 30 150 rfl rfl
          exact n_call (f := 85) rfl (by simp only [List.map_toArray, List.map_cons, List.map_nil, e0, e1] <;> rfl) (by go_simp) (imShard_ij (HUM W hb).ij HU.out) (fun e W' h => ⟨_, h.1, h.2.below _, rfl⟩)
        · intro a W hb ho hg
          have eg : a.eval (.tmp 147) = .bool false := hg 27 147 rfl rfl
          rw [if_pos (nw_some rfl rfl eg)]
          have e : a.eval (.tmp 9) = .pointer (some ⟨X, 0, none⟩) := ho 9 rfl
          exact n_run (np_loadM rfl e (HX0.out W hb) (HX1.out W hb) (HX2.out W hb)) rfl
        · intro a W hb ho hg
          have eg : a.eval (.tmp 147) = .bool false := hg 27 147 rfl rfl
          rw [if_pos (nw_some rfl rfl eg)]
          have e : a.eval (.tmp 12) = .pointer (some ⟨E, 0, none⟩) := ho 12 rfl
          exact n_run (v := .pointer (some ⟨E, 1, none⟩)) (by simp only [execOp, e]; go_simp) rfl
        · intro a W hb ho hg
          have eg : a.eval (.tmp 147) = .bool false := hg 27 147 rfl rfl
          rw [if_pos (nw_some rfl rfl eg)]
          have e : a.eval (.tmp 153) = .pointer (some ⟨E, 1, none⟩) := hg 33 153 rfl rfl
          exact n_run (np_loadU rfl e (HE1.out W hb)) rfl
        · intro a W hb ho hg
          have eg : a.eval (.tmp 147) = .bool false := hg 27 147 rfl rfl
          rw [if_pos (nw_some rfl rfl eg)]
          have e0 : a.eval (.tmp 152) = .agg #[.int .i64 (n : Int), .slice A4 x.L.length c4, .int .i64 (x.v : Int)] := hg 32 152 rfl rfl
          have e1 : a.eval (.tmp 154) = .int .u64 id := hg 34 154 rfl rfl
          exact n_call (f := 86) rfl (by simp only [List.map_toArray, List.map_cons, List.map_nil, e0, e1] <;> rfl) (by go_simp) (RmShard_any (HUM W hb).rm (HUM W hb).ij.fit HU.out) (fun e W' h => ⟨_, h.1, h.2, by rw [(HUM W hb).ij.sh]; rfl⟩)
        · intro a W hb ho hg
          have eg : a.eval (.tmp 147) = .bool false := hg 27 147 rfl rfl
          rw [if_pos (nw_some rfl rfl eg)]
          have e : a.eval (.tmp 151) = .int .i64 ((shI n id : Nat) : Int) := hg 31 151 rfl rfl
          have f : a.eval (.tmp 155) = .int .i64 ((shI n id : Nat) : Int) := hg 35 155 rfl rfl
          exact n_run (np_neI rfl e f) rfl
        · intro a W hb ho hg
          rw [if_pos (nw_none rfl)]
          have e : a.eval (.tmp 147) = .bool false := hg 27 147 rfl rfl
          have f : a.eval (.tmp 156) = .bool false := hg 36 156 rfl rfl
          exact n_pick rfl e (fun h => by cases h) (fun _ => f) rfl
        · intro a W hb ho hg
          rw [if_pos (nw_none rfl)]
          have e : a.eval (.tmp 157) = .bool false := hg 37 157 rfl rfl
          exact n_move rfl e rfl
        · intro a W hb ho hg
          have eg : a.eval (.tmp 158) = .bool false := hg 38 158 rfl rfl
          rw [if_pos (nw_some rfl rfl eg)]
          have e : a.eval (.tmp 7) = .pointer (some ⟨B, 0, none⟩) := ho 7 rfl
          exact n_move rfl e rfl
        · intro a W hb ho hg
          have eg : a.eval (.tmp 158) = .bool false := hg 38 158 rfl rfl
          rw [if_pos (nw_some rfl rfl eg)]
          have e : a.eval (.tmp 2) = .int .i64 shard := ho 2 rfl
          exact n_move rfl e rfl
        · intro a W hb ho hg
          have eg : a.eval (.tmp 158) = .bool false := hg 38 158 rfl rfl
          rw [if_pos (nw_some rfl rfl eg)]
          have e0 : a.eval (.tmp 159) = .pointer (some ⟨B, 0, none⟩) := hg 39 159 rfl rfl
          have e1 : a.eval (.tmp 160) = .int .i64 shard := hg 40 160 rfl rfl
          exact n_call (f := 87) rfl (by simp only [List.map_toArray, List.map_cons, List.map_nil, e0, e1] <;> rfl) (by go_simp) (imSize_z (HUM W hb).ij HN1.out shard) (fun e W' h => ⟨_, h.1, by rw [← h.2]; exact Below.refl _ _, rfl⟩)
        · intro a W hb ho hg
          have eg : a.eval (.tmp 158) = .bool false := hg 38 158 rfl rfl
          rw [if_pos (nw_some rfl rfl eg)]
          have e : a.eval (.tmp 9) = .pointer (some ⟨X, 0, none⟩) := ho 9 rfl
          exact n_run (np_loadM rfl e (HX0.out W hb) (HX1.out W hb) (HX2.out W hb)) rfl
        · intro a W hb ho hg
          have eg : a.eval (.tmp 158) = .bool false := hg 38 158 rfl rfl
          rw [if_pos (nw_some rfl rfl eg)]
          have e : a.eval (.tmp 2) = .int .i64 shard := ho 2 rfl
          exact n_move rfl e rfl
        · intro a W hb ho hg
          have eg : a.eval (.tmp 158) = .bool false := hg 38 158 rfl rfl
          rw [if_pos (nw_some rfl rfl eg)]
          have e0 : a.eval (.tmp 162) = .agg #[.int .i64 (n : Int), .slice A4 x.L.length c4, .int .i64 (x.v : Int)] := hg 42 162 rfl rfl
          have e1 : a.eval (.tmp 163) = .int .i64 shard := hg 43 163 rfl rfl
          exact n_call (f := 88) rfl (by simp only [List.map_toArray, List.map_cons, List.map_nil, e0, e1] <;> rfl) (by go_simp) (RmSize_any (HUM W hb).rm (HUM W hb).ij.fit (Nat.le_of_lt HK.out) shard) (fun e W' h => ⟨_, h.1, h.2, by rw [(HUM W hb).ij.sh]; rfl⟩)
        · intro a W hb ho hg
          have eg : a.eval (.tmp 158) = .bool false := hg 38 158 rfl rfl
          rw [if_pos (nw_some rfl rfl eg)]
          have e : a.eval (.tmp 161) = .int .i64 ((cntZ n x.L shard : Nat) : Int) := hg 41 161 rfl rfl
          have f : a.eval (.tmp 164) = .int .i64 ((cntZ n x.L shard : Nat) : Int) := hg 44 164 rfl rfl
          exact n_run (np_neI rfl e f) rfl
        · intro a W hb ho hg
          rw [if_pos (nw_none rfl)]
          have e : a.eval (.tmp 158) = .bool false := hg 38 158 rfl rfl
          have f : a.eval (.tmp 165) = .bool false := hg 45 165 rfl rfl
          exact n_pick rfl e (fun h => by cases h) (fun _ => f) rfl
        · intro a W hb ho hg
          rw [if_pos (nw_none rfl)]
          have e : a.eval (.tmp 166) = .bool false := hg 46 166 rfl rfl
          exact n_move rfl e rfl
        · intro a W hb ho hg
          have eg : a.eval (.tmp 167) = .bool false := hg 47 167 rfl rfl
          rw [if_pos (nw_some rfl rfl eg)]
          have e : a.eval (.tmp 7) = .pointer (some ⟨B, 0, none⟩) := ho 7 rfl
          exact n_move rfl e rfl
        · intro a W hb ho hg
          have eg : a.eval (.tmp 167) = .bool false := hg 47 167 rfl rfl
          rw [if_pos (nw_some rfl rfl eg)]
          have e0 : a.eval (.tmp 168) = .pointer (some ⟨B, 0, none⟩) := hg 48 168 rfl rfl
          exact n_call (f := 90) rfl (by simp only [List.map_toArray, List.map_cons, List.map_nil, e0] <;> rfl) (by go_simp) (imList_ij (HUM W hb).ij HK.out) (fun e W' ⟨A, c, h1, h2, h3⟩ => ⟨_, h1, h3, ⟨A, c, rfl, h2.lo⟩⟩)
        · intro a W hb ho hg
          have eg : a.eval (.tmp 167) = .bool false := hg 47 167 rfl rfl
          rw [if_pos (nw_some rfl rfl eg)]
          have e : a.eval (.tmp 9) = .pointer (some ⟨X, 0, none⟩) := ho 9 rfl
          exact n_run (v := .pointer (some ⟨X, 1, none⟩)) (by simp only [execOp, e]; go_simp) rfl
        · intro a W hb ho hg
          have eg : a.eval (.tmp 167) = .bool false := hg 47 167 rfl rfl
          rw [if_pos (nw_some rfl rfl eg)]
          have e : a.eval (.tmp 170) = .pointer (some ⟨X, 1, none⟩) := hg 50 170 rfl rfl
          exact n_run (np_loadS rfl e (HX1.out W hb)) rfl
        · intro a W hb ho hg
          have eg : a.eval (.tmp 167) = .bool false := hg 47 167 rfl rfl
          rw [if_pos (nw_some rfl rfl eg)]
          obtain ⟨Ae0, ce0, e0, re0⟩ := (show ∃ A k, a.eval (.tmp 169) = .slice A x.L.length k ∧ RdN W 0 A x.L from hg 49 169 rfl rfl)
          have e1 : a.eval (.tmp 171) = .slice A4 x.L.length c4 := hg 51 171 rfl rfl
          exact n_call (f := 89) rfl (by simp only [List.map_toArray, List.map_cons, List.map_nil, e0, e1] <;> rfl) (by go_simp) (SameN_refl Ae0 A4 x.L ce0 c4 0 0 W re0 (HRD.out W hb) HLN.out) (fun e W' h => ⟨_, h.1, h.2.below _, rfl⟩)
        · intro a W hb ho hg
          have eg : a.eval (.tmp 167) = .bool false := hg 47 167 rfl rfl
          rw [if_pos (nw_some rfl rfl eg)]
          have e : a.eval (.tmp 172) = .bool true := hg 52 172 rfl rfl
          exact n_not rfl e rfl
        · intro a W hb ho hg
          rw [if_pos (nw_none rfl)]
          have e : a.eval (.tmp 167) = .bool false := hg 47 167 rfl rfl
          have f : a.eval (.tmp 173) = .bool false := hg 53 173 rfl rfl
          exact n_pick rfl e (fun h => by cases h) (fun _ => f) rfl
    · have HBE := Lib.hid hE.below0
      clear hE
      go_wp2_with fail
      refine (im_lives_any _).mono ?_
      rintro e w4 ⟨rfl, hb4⟩
      have HB4 := Lib.hid (HBE.out.trans (hb4.mono HBE.out.size))
      clear hb4
      go_wp2
      go_ret
      exact ⟨rfl, HB4.out⟩

end Go.Proofs.Ytoaikdnooafjmaa
