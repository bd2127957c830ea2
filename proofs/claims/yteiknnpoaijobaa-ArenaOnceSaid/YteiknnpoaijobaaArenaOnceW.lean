/- A slot in one of its generations is told once at most, and each has one state (ArenaOnce), walked. -/
import Derived.Test.YteiknnpoaijobaaArLives
import Derived.Test.YteiknnpoaijobaaArOnceP
import Derived.Test.YteiknnpoaijobaaLawTrip
import Derived.Deep.AppendLies
import Derived.Test.YteiknnpoaijobaaOnceBox
namespace Go.Proofs.Yteiknnpoaijobaa
open Go.RowKit

theorem info_ref_ar : (Try.prog.info? 36).map (fun i => (i.zero, i.size, i.bytes)) = some (some (.agg #[.int .i64 0, .int .i64 0]), 2, 16) := by kernel_rfl
/-- An arena, and the list of what was told; D: other blocks of the law's. -/
structure OE (w0 : World) (n B : Nat) (x : AR) (TV : Value) (T : List (Int × Nat)) (D : List Nat) (w : World) : Prop where
  aj : AJ w0 n B x (fun b => TV.ownBlock = some b ∨ b ∈ D) w
  row : w.ownsRow 0 36 2 TV T.length (cellsR T)
section
variable {w0 w w' : World} {n m B : Nat} {x y : AR} {TV : Value} {T : List (Int × Nat)} {D D' : List Nat}
theorem OE.keep (h : OE w0 n B x TV T D w) (hj : AJ w0 m B y (fun b => TV.ownBlock = some b ∨ b ∈ D) w') (hk : KeepA (fun b => TV.ownBlock = some b ∨ b ∈ D) w w') : OE w0 m B y TV T D w' := ⟨hj, hk.row h.row fun _ e => .inl e⟩
theorem OE.later (h : OE w0 n B x TV T D w) (hb : Below w.heap.size w w') : OE w0 n B x TV T D w' := h.keep (h.aj.later hb) fun b e => hb.block b (h.aj.lt e).2
theorem OE.more (h : OE w0 n B x TV T D w) (hm : n ≤ m) : OE w0 m B x TV T D w := ⟨h.aj.more hm, h.row⟩
theorem OE.drop (h : OE w0 n B x TV T D w) (hs : ∀ b ∈ D', b ∈ D) : OE w0 n B x TV T D' w := ⟨h.aj.sub fun b e => e.imp id (hs b), h.row⟩
theorem OE.box (h : OE w0 n B x TV T [] w) (o : Obj) : OE w0 n B x TV T [w.heap.size] (w.alloc o) := by
  have hb := below_new w o
  refine ⟨h.aj.write (M := fun _ => False) (Chg.of_below hb) (fun _ e => e.elim) (fun b e => ?_), (h.later hb).row⟩
  rcases e with e | e
  · exact .inl (.inl e)
  · rw [List.mem_singleton.1 e]
    exact .inr ⟨Nat.le_refl _, by simp⟩
theorem OE.put (h : OE w0 n B x TV T [] w) {W1 w2 : World} {gg cap tl g : Nat} {s : Int} (hb : Below w.heap.size w W1) (hg : W1.grownBy w2 TV.ownBlock) (hl : T.length = tl)
    (hown : w2.ownsRow 0 36 2 (.slice (some ⟨gg, 0, none⟩) (tl + 1) cap) (tl + 1) (cellsR T ++ [.int .i64 s, .int .i64 (g : Int)])) (hat : TV.ownBlock = some gg ∨ gg = W1.heap.size) (hlt : gg < w2.heap.size) :
    OE w0 n B x (.slice (some ⟨gg, 0, none⟩) (tl + 1) cap) (T ++ [(s, g)]) [] w2 := by
  subst hl
  have hs := hb.size
  have hc : Chg (fun b => TV.ownBlock = some b) w w2 := (Chg.of_below hb).trans (M' := fun b => TV.ownBlock = some b) ⟨hg.os, hg.tape, hg.output, hg.size, fun b hb hn => hg.block b hb (fun e => hn e.symm)⟩ (fun b e => .inl e)
  refine ⟨h.aj.write hc (fun b e => .inl e) (fun b e => ?_), ?_⟩
  · rcases e with e | e
    · have : gg = b := by injection e
      subst this
      rcases hat with e2 | e2
      · exact .inl (.inl e2)
      · exact .inr ⟨by omega, hlt⟩
    · cases e
  · rw [List.length_append, cellsR_snoc]
    exact hown
end

set_option maxRecDepth 100000 in
set_option maxHeartbeats 16000000 in
theorem ArenaOnce_walk (slots : Int) (A : Option Addr) (zs : List (Int × Int × Int)) (c : Nat) (w : World) (hA : RdI3 w w.heap.size A zs) (hI : ∀ x ∈ zs, IsI x.1 ∧ IsI x.2.1 ∧ IsI x.2.2) (hl : zs.length ≤ 9223372036854775807) (_ : zs.length ≤ c) (_ : A = none → c = 0) :
    Calls Try.prog 4 #[.int .i64 slots, .slice A zs.length c] w fun e w' => e = .returned (.bool true) ∧ Below w.heap.size w w' := by
  by_cases hlong : 100 < zs.length
  · have hi : (100 : Int) < (zs.length : Int) := by omega
    clear hA hI
    go_enter Try.func4, Try.ntmps4
    go_wp2_with fail
    refine (ar_lives_any _).mono ?_
    rintro e w1 ⟨rfl, hb1⟩
    go_wp2
    go_ret
    exact ⟨rfl, hb1⟩
  have hi : ¬ (100 : Int) < (zs.length : Int) := by omega
  by_cases hbig : 300 < slots
  · clear hA hI
    go_enter Try.func4, Try.ntmps4
    go_wp2_with fail
    refine (ar_lives_any _).mono ?_
    rintro e w1 ⟨rfl, hb1⟩
    go_wp2
    go_ret
    exact ⟨rfl, hb1⟩
  by_cases hbad : slots < 1
  · have HN := Lib.hid (fun W => arNew_not slots (.inl hbad) W)
    clear hA hI
    go_enter Try.func4, Try.ntmps4
    go_wp2_with fail
    refine (ar_lives_any _).mono ?_
    rintro e w1 ⟨rfl, hb1⟩
    have HB1 := Lib.hid hb1
    clear hb1
    go_wp2_with fail
    refine (HN.out _).mono ?_
    rintro e w2 ⟨rfl, rfl⟩
    go_wp2
    go_ret
    exact ⟨rfl, HB1.out⟩
  obtain ⟨N, rfl⟩ : ∃ N : Nat, slots = (N : Int) := ⟨slots.toNat, by omega⟩
  have hN1 : 1 ≤ N := by omega
  have hN2 : N ≤ 300 := by omega
  have hN3 : (N : Int) ≤ 300 := by omega
  have HI := Lib.hid hI
  clear hI hbad
  obtain ⟨i0, hi0, hz0, hz1, hz2⟩ := info_parts info_ref_ar
  go_enter Try.func4, Try.ntmps4
  go_wp2_with fail
  refine (ar_lives_any _).mono ?_
  rintro e w1 ⟨rfl, hb1⟩
  have HB1 := Lib.hid hb1
  have HA := Lib.hid (hA.below hb1)
  clear hb1 hA
  go_wp2_with fail
  refine (arNew_aj N hN1 (by omega) _).mono ?_
  rintro e w2 ⟨B, rfl, h2⟩
  have H2 : Hid (OE w1 0 B (arNew N) (.slice none 0 0) [] [] w2) := Lib.hid ⟨h2.sub (fun b e => by rcases e with e | e <;> cases e), World.ownsRow_nil _ _ _ _⟩
  have HN0 : Hid ((arNew N).st.length = N) := Lib.hid (by simp [arNew])
  clear h2
  go_wp2
  go_loopw [7, 51] (fun tv i wr => ∃ (k : Nat) (x : AR) (T : List (Int × Nat)), k ≤ zs.length ∧ i = .int .i64 k ∧ OE w1 k B x tv T [] wr ∧ Hid (ToldA x T) ∧ T.length ≤ k ∧ Hid (x.st.length = N)) (fun _ i _ => zs.length - (intOf i).toNat)
  case atStart => exact ⟨0, arNew N, [], Nat.zero_le _, rfl, H2.out, Lib.hid (ToldA.nil _), Nat.le_refl _, HN0⟩
  case round =>
    obtain ⟨k, x, T, hk, rfl, hE, HT, hTk, HX⟩ := hrel
    by_cases hlt : k < zs.length
    · obtain ⟨d, hd⟩ : ∃ d, zs[k]? = some d := ⟨_, List.getElem?_eq_getElem hlt⟩
      obtain ⟨b, off, rfl, hbb, q0, q1, q2⟩ := HA.out k d hd
      obtain ⟨kd, v, t⟩ := d
      have hbw : b < w1.heap.size := Nat.lt_of_lt_of_le hbb HB1.out.size
      have hbe := hE.aj.below
      have r0 := (hbe.cell (p := ⟨b, off + k * 3, none⟩) hbw).trans q0
      have r1 := (hbe.cell (p := ⟨b, off + k * 3 + 1, none⟩) hbw).trans q1
      have r2 := (hbe.cell (p := ⟨b, off + k * 3 + 2, none⟩) hbw).trans q2
      clear q0 q1 q2 hd hbe
      simp only at r0 r1 r2
      have hkl : (k : Int) < (zs.length : Int) := by omega
      have hk0 : (0 : Int) ≤ (k : Int) := by omega
      have hk100 : k < 100 := by omega
      have HD := Lib.hid (hE.box (.cells #[.int .i64 kd, .int .i64 v, .int .i64 t] 34))
      clear hE
      by_cases k0 : kd = 0
      · subst k0
        have HC := Lib.hid (arCount_aj HD.out.aj 0)
        have HAL := Lib.hid (arAlloc_aj HD.out.aj)
        go_wp2_with fail
        refine HC.out.mono ?_
        rintro e w3 ⟨rfl, rfl⟩
        clear HC
        go_wp2_with fail
        refine HAL.out.mono ?_
        rintro e w4 ⟨rfl, h4, hk4⟩
        have H4 := Lib.hid ((HD.out.keep h4 hk4).drop (D' := []) (fun _ h => by cases h))
        clear h4 hk4 HAL
        have haf := al_free HD.out.aj.fit
        cases hab : alB x with
        | true =>
          have hn0 : (0 : Int) < arCnt x 0 := of_decide_eq_true (haf.1.symm.trans hab)
          obtain ⟨f1, f2, f3⟩ := haf.2 hab
          have HFR := Lib.hid (HT.out.fresh HD.out.aj.fit hab)
          have HT9 := Lib.hid (HT.out.alloc HD.out.aj.fit hab)
          have HX2 : Hid ((alX x).st.length = N) := Lib.hid ((alX_len x).trans HX.out)
          have hnb : arCnt x 0 ≤ 4096 := by
            have := HD.out.aj.fit.frl
            rw [HD.out.aj.fit.cn] at this
            show ((x.st.count 0 : Nat) : Int) ≤ 4096
            omega
          clear HD HT haf HX
          have H5 := Lib.hid (H4.out.later (below_new w4 (.cells #[.int .i64 (alS x : Nat), .int .i64 (alG x : Nat)] 36)))
          have HBB := Lib.hid (below_new w4 (.cells #[.int .i64 (alS x : Nat), .int .i64 (alG x : Nat)] 36))
          clear H4
          generalize alX x = y at *
          generalize arCnt x 0 = n at *
          generalize alG x = g at *
          generalize alS x = s at *
          have x0 : (w4.alloc (.cells #[.int .i64 (s : Int), .int .i64 (g : Int)] 36)).cell? ⟨w4.heap.size, 0, none⟩ = some (.int .i64 (s : Int)) := by go_cell
          have x1 : (w4.alloc (.cells #[.int .i64 (s : Int), .int .i64 (g : Int)] 36)).cell? ⟨w4.heap.size, 1, none⟩ = some (.int .i64 (g : Int)) := by go_cell
          have HR := Lib.hid (show w4.heap.size < (w4.alloc (.cells #[.int .i64 (s : Int), .int .i64 (g : Int)] 36)).heap.size by simp)
          go_upto_region 19 with (fail)
          generalize w4.heap.size = R at *
          generalize w4.alloc (.cells #[.int .i64 (s : Int), .int .i64 (g : Int)] 36) = W5 at *
          have HS := Lib.hid (fun m => arState_aj (H5.out.aj.later (below_draws W5 m W5.heap.size)) (s : Int))
          have HG := Lib.hid (fun m => arGen_aj (H5.out.aj.later (below_draws W5 m W5.heap.size)) (s : Int))
          have HC := Lib.hid (fun m => arCount_aj (H5.out.aj.later (below_draws W5 m W5.heap.size)) 0)
          rw [f1] at HS
          rw [f2] at HG
          rw [f3] at HC
          have hn2 : (n - 1 != n - 1) = false := by simp
          have hn3 : ((1 : Int) != 1) = false := by simp
          have hn4 : ((g : Int) != g) = false := by simp
          clear f1 f2 f3
          go_quiet ((first | (go_at_call 21; exact quiet_same (HS.out _)) | (go_at_call 23; exact quiet_same (HG.out _)) | (go_at_call 25; exact quiet_same (HC.out _))))
          have H6 := Lib.hid (H5.out.later (below_draws W5 nq W5.heap.size))
          have X6 := Lib.hid (show (W5.drewN nq).cell? ⟨R, 0, none⟩ = some (.int .i64 (s : Int)) ∧ (W5.drewN nq).cell? ⟨R, 1, none⟩ = some (.int .i64 (g : Int)) ∧ R < (W5.drewN nq).heap.size from ⟨x0, x1, HR.out⟩)
          clear H5 HBB x0 x1 HR HS HG HC hn2 hn3 hn4 hn0 hnb
          generalize W5.drewN nq = W6 at *
          obtain ⟨A6, c6, rfl, hc6, hc7⟩ := ownSlice H6.out.row
          obtain ⟨tl, htl⟩ : ∃ tl, T.length = tl := ⟨_, rfl⟩
          have HTL := Lib.hid htl
          rw [htl] at H6 hTk
          rw [htl]
          have htl2 : tl ≤ 100 := by omega
          clear htl hc6 hc7
          go_wp2
          go_loopw [122] (fun j wr => ∃ i : Nat, i ≤ tl ∧ j = .int .i64 (i : Int) ∧ Below W6.heap.size W6 wr) (fun j _ => tl - (intOf j).toNat)
          case atStart => exact ⟨0, Nat.zero_le _, rfl, Below.refl _ _⟩
          case round =>
            obtain ⟨i, hi2, rfl, hbi⟩ := hrel
            by_cases hit : i < tl
            · obtain ⟨p, hp⟩ : ∃ p, T[i]? = some p := ⟨_, List.getElem?_eq_getElem (by rw [HTL.out]; exact hit)⟩
              have hpn := HFR.out p (List.mem_of_getElem? hp)
              have hcl := cellsR_at T i p hp
              have hrow := H6.out.row
              rw [HTL.out] at hrow
              obtain ⟨ga, rfl, _, hga⟩ := ownPos hrow (by omega)
              have y0 := (hbi.cell (p := ⟨ga, i * 2, none⟩) hga).trans ((hrow.cellAt (i * 2) (by omega)).trans hcl.1)
              have y1 := (hbi.cell (p := ⟨ga, i * 2 + 1, none⟩) hga).trans ((hrow.cellAt (i * 2 + 1) (by omega)).trans hcl.2)
              have z0 := (hbi.cell (p := ⟨R, 0, none⟩) X6.out.2.2).trans X6.out.1
              have z1 := (hbi.cell (p := ⟨R, 1, none⟩) X6.out.2.2).trans X6.out.2.1
              obtain ⟨ps, pg⟩ := p
              simp only at y0 y1 hpn
              have hil : (i : Int) < (tl : Int) := by omega
              have hi0 : (0 : Int) ≤ (i : Int) := by omega
              have HBI := Lib.hid (hbi.trans ((below_new wr (.cells #[.int .i64 ps, .int .i64 (pg : Int)] 36)).mono hbi.size))
              have zr := Nat.lt_of_lt_of_le X6.out.2.2 hbi.size
              clear hp hcl hrow hbi
              by_cases hps : ps = (s : Int)
              · subst hps
                have hpg : ((pg : Int) == (g : Int)) = false := by have : ¬ pg = g := fun e => hpn ⟨rfl, e⟩; simp; omega
                have hss : ((s : Int) == (s : Int)) = true := by simp
                clear hpn
                go_wp2
                go_roundw
                case rel => exact ⟨i + 1, by omega, by go_num, HBI.out⟩
                case measure => simp [intOf]; omega
              · have hps2 : (ps == (s : Int)) = false := by simpa using hps
                clear hpn hps
                go_wp2
                go_roundw
                case rel => exact ⟨i + 1, by omega, by go_num, HBI.out⟩
                case measure => simp [intOf]; omega
            · obtain rfl : i = tl := by omega
              have H7 := Lib.hid (H6.out.later hbi)
              have y0 := (hbi.cell (p := ⟨R, 0, none⟩) X6.out.2.2).trans X6.out.1
              have y1 := (hbi.cell (p := ⟨R, 1, none⟩) X6.out.2.2).trans X6.out.2.1
              clear hbi H6 X6 HFR
              obtain ⟨W7, rfl⟩ : ∃ W7, W7 = wr := ⟨_, rfl⟩
              have HRW := Lib.hid (by have := H7.out.row.alloc (.cells #[.int .i64 (s : Int), .int .i64 (g : Int)] 36); rw [HTL.out] at this; exact this)
              have HNW := Lib.hid (World.news_of_block (w := W7.alloc (.cells #[.int .i64 (s : Int), .int .i64 (g : Int)] 36)) (B := W7.heap.size) (cs := #[.int .i64 (s : Int), .int .i64 (g : Int)]) (t := 36) (fr := (0, 0)) (heap_alloc_last W7 _))
              go_wp2_with (at_builtin; refine wpList_append_lies _ rfl _ _ 49 rfl 0 36 i0 _ 2 16 Try.underlying49 hi0 hz0 hz1 hz2 rfl (by decide) (.slice A6 i c6) i (cellsR T) rfl HRW.out ⟨W7.heap.size, 0, none⟩ 1 1 [.int .i64 (s : Int), .int .i64 (g : Int)] rfl rfl HNW.out (by simp [Value.oneCell']) (by decide) (by unfold maxLen; omega) (by omega) (by omega) (W7.heap.size + 1) (by simp) ?_; intro gg cap w8 hown8 hgrow hat hlt8)
              have H9 := Lib.hid (by
                have := (H7.out.more (Nat.le_succ k)).put (s := (s : Int)) (g := g) (below_new W7 (.cells #[.int .i64 (s : Int), .int .i64 (g : Int)] 36)) hgrow HTL.out hown8 (by rw [World.size_alloc]; exact hat) hlt8
                exact this)
              have hT9 : (T ++ [((s : Int), g)]).length ≤ k + 1 := by rw [List.length_append, List.length_singleton, HTL.out]; omega
              generalize T ++ [((s : Int), g)] = T9 at *
              obtain ⟨W9, rfl⟩ : ∃ W9, W9 = w8 := ⟨_, rfl⟩
              clear hown8 hgrow hat hlt8 H7 HTL HRW HNW y0 y1
              have HSUM := Lib.hid (show csum y.st 5 = N from H9.out.aj.fit.csum.trans HX2.out)
              have hfew := H9.out.aj.fit.few
              have HCS := Lib.hid (fun j => csum_le y.st j)
              have HCO := Lib.hid (fun (j : Nat) (hj : j < 5) => by
                have := arCount_aj H9.out.aj (j : Int)
                rw [arCnt_in hj] at this
                exact this)
              go_loopw [17, 18] (fun a s wr => ∃ j : Nat, j ≤ 5 ∧ s = .int .i64 (j : Int) ∧ a = .int .i64 (csum y.st j : Int) ∧ wr = W9) (fun _ s _ => 5 - (intOf s).toNat)
              case atStart => exact ⟨0, Nat.zero_le _, rfl, rfl, rfl⟩
              case round =>
                obtain ⟨j, hj, rfl, rfl, rfl⟩ := hrel
                by_cases hj5 : j < 5
                · have hj6 : (j : Int) < 5 := by omega
                  have hj7 : (0 : Int) ≤ (j : Int) := by omega
                  have hcc := HCO.out j hj5
                  have hci := csum_i (x := y) j
                  have hc1 := HCS.out j
                  have hc2 := HCS.out (j + 1)
                  obtain ⟨a0, ha0⟩ : ∃ a : Nat, csum y.st j = a := ⟨_, rfl⟩
                  obtain ⟨a1, ha1⟩ : ∃ a : Nat, csum y.st (j + 1) = a := ⟨_, rfl⟩
                  obtain ⟨a2, ha2⟩ : ∃ a : Nat, y.st.count j = a := ⟨_, rfl⟩
                  rw [ha2] at hcc hci
                  rw [ha0] at hci hc1
                  rw [ha1] at hci hc2
                  rw [ha0]
                  have HA1 := Lib.hid ha1
                  have HCI := Lib.hid hci
                  have HCC := Lib.hid hcc
                  have hb0 : (a0 : Int) ≤ 4096 := by omega
                  have hb2 : (a2 : Int) ≤ 4096 := by omega
                  have hb3 : (0 : Int) ≤ (a0 : Int) := by omega
                  have hb4 : (0 : Int) ≤ (a2 : Int) := by omega
                  clear ha0 ha1 ha2 hci hc1 hc2 hcc HCO HCS
                  go_wp2_with fail
                  refine HCC.out.mono ?_
                  rintro e w8 ⟨rfl, rfl⟩
                  clear HCC
                  go_wp2
                  go_roundw
                  case rel => exact ⟨j + 1, by omega, by go_num, by rw [HA1.out, HCI.out], by first | exact rfl | trivial⟩
                  case measure => simp [intOf]; omega
                · obtain rfl : j = 5 := by omega
                  have hsum : ((csum y.st 5 : Nat) : Int) = (N : Int) := by rw [HSUM.out]
                  rw [hsum]
                  clear hsum HSUM HCS HCO
                  go_wp2
                  go_roundw
                  case rel => exact ⟨k + 1, y, T9, by omega, by go_num, H9.out, HT9.out, hT9, HX2⟩
                  case measure => simp [intOf]; omega
        | false =>
          have hn0 : ¬ (0 : Int) < arCnt x 0 := of_decide_eq_false (haf.1.symm.trans hab)
          have hn1 : decide ((0 : Int) < arCnt x 0) = false := decide_eq_false hn0
          have HT9 := Lib.hid (HT.out.noAlloc hab)
          have HX2 : Hid ((alX x).st.length = N) := Lib.hid ((alX_len x).trans HX.out)
          clear HD HT haf HX
          have H5 := Lib.hid (H4.out.later (below_new w4 (.cells #[.int .i64 (alS x : Nat), .int .i64 (alG x : Nat)] 36)))
          clear H4
          generalize alX x = y at *
          generalize arCnt x 0 = n at *
          generalize alG x = g at *
          generalize alS x = s at *
          go_upto_region 19 with (fail)
          generalize w4.heap.size = R at *
          generalize w4.alloc (.cells #[.int .i64 (s : Int), .int .i64 (g : Int)] 36) = W5 at *
          go_quiet (fail)
          have H6 := Lib.hid (H5.out.later (below_draws W5 nq W5.heap.size))
          clear H5 hn0 hn1
          generalize W5.drewN nq = W6 at *
          obtain ⟨A6, c6, rfl, hc6, hc7⟩ := ownSlice H6.out.row
          obtain ⟨tl, htl⟩ : ∃ tl, T.length = tl := ⟨_, rfl⟩
          have HTL := Lib.hid htl
          rw [htl] at H6 hTk
          rw [htl]
          have htl2 : tl ≤ 100 := by omega
          clear htl hc6 hc7
          go_wp2
          go_loopw [122] (fun j wr => ∃ i : Nat, i ≤ tl ∧ j = .int .i64 (i : Int) ∧ Below W6.heap.size W6 wr) (fun j _ => tl - (intOf j).toNat)
          case atStart => exact ⟨0, Nat.zero_le _, rfl, Below.refl _ _⟩
          case round =>
            obtain ⟨i, hi2, rfl, hbi⟩ := hrel
            by_cases hit : i < tl
            · obtain ⟨p, hp⟩ : ∃ p, T[i]? = some p := ⟨_, List.getElem?_eq_getElem (by rw [HTL.out]; exact hit)⟩
              have hcl := cellsR_at T i p hp
              have hrow := H6.out.row
              rw [HTL.out] at hrow
              obtain ⟨ga, rfl, _, hga⟩ := ownPos hrow (by omega)
              have y0 := (hbi.cell (p := ⟨ga, i * 2, none⟩) hga).trans ((hrow.cellAt (i * 2) (by omega)).trans hcl.1)
              have y1 := (hbi.cell (p := ⟨ga, i * 2 + 1, none⟩) hga).trans ((hrow.cellAt (i * 2 + 1) (by omega)).trans hcl.2)
              obtain ⟨ps, pg⟩ := p
              simp only at y0 y1
              have hil : (i : Int) < (tl : Int) := by omega
              have hi0 : (0 : Int) ≤ (i : Int) := by omega
              have HBI := Lib.hid (hbi.trans ((below_new wr (.cells #[.int .i64 ps, .int .i64 (pg : Int)] 36)).mono hbi.size))
              clear hp hcl hrow hbi
              go_wp2
              go_roundw
              case rel => exact ⟨i + 1, by omega, by go_num, HBI.out⟩
              case measure => simp [intOf]; omega
            · obtain rfl : i = tl := by omega
              have H9 := Lib.hid ((H6.out.later hbi).more (Nat.le_succ k))
              have hT9 : T.length ≤ k + 1 := by rw [HTL.out]; omega
              obtain ⟨W9, rfl⟩ : ∃ W9, W9 = wr := ⟨_, rfl⟩
              obtain ⟨T9, rfl⟩ : ∃ T9, T9 = T := ⟨_, rfl⟩
              clear hbi H6 HTL
              go_wp2
              have HSUM := Lib.hid (show csum y.st 5 = N from H9.out.aj.fit.csum.trans HX2.out)
              have hfew := H9.out.aj.fit.few
              have HCS := Lib.hid (fun j => csum_le y.st j)
              have HCO := Lib.hid (fun (j : Nat) (hj : j < 5) => by
                have := arCount_aj H9.out.aj (j : Int)
                rw [arCnt_in hj] at this
                exact this)
              go_loopw [17, 18] (fun a s wr => ∃ j : Nat, j ≤ 5 ∧ s = .int .i64 (j : Int) ∧ a = .int .i64 (csum y.st j : Int) ∧ wr = W9) (fun _ s _ => 5 - (intOf s).toNat)
              case atStart => exact ⟨0, Nat.zero_le _, rfl, rfl, rfl⟩
              case round =>
                obtain ⟨j, hj, rfl, rfl, rfl⟩ := hrel
                by_cases hj5 : j < 5
                · have hj6 : (j : Int) < 5 := by omega
                  have hj7 : (0 : Int) ≤ (j : Int) := by omega
                  have hcc := HCO.out j hj5
                  have hci := csum_i (x := y) j
                  have hc1 := HCS.out j
                  have hc2 := HCS.out (j + 1)
                  obtain ⟨a0, ha0⟩ : ∃ a : Nat, csum y.st j = a := ⟨_, rfl⟩
                  obtain ⟨a1, ha1⟩ : ∃ a : Nat, csum y.st (j + 1) = a := ⟨_, rfl⟩
                  obtain ⟨a2, ha2⟩ : ∃ a : Nat, y.st.count j = a := ⟨_, rfl⟩
                  rw [ha2] at hcc hci
                  rw [ha0] at hci hc1
                  rw [ha1] at hci hc2
                  rw [ha0]
                  have HA1 := Lib.hid ha1
                  have HCI := Lib.hid hci
                  have HCC := Lib.hid hcc
                  have hb0 : (a0 : Int) ≤ 4096 := by omega
                  have hb2 : (a2 : Int) ≤ 4096 := by omega
                  have hb3 : (0 : Int) ≤ (a0 : Int) := by omega
                  have hb4 : (0 : Int) ≤ (a2 : Int) := by omega
                  clear ha0 ha1 ha2 hci hc1 hc2 hcc HCO HCS
                  go_wp2_with fail
                  refine HCC.out.mono ?_
                  rintro e w8 ⟨rfl, rfl⟩
                  clear HCC
                  go_wp2
                  go_roundw
                  case rel => exact ⟨j + 1, by omega, by go_num, by rw [HA1.out, HCI.out], by first | exact rfl | trivial⟩
                  case measure => simp [intOf]; omega
                · obtain rfl : j = 5 := by omega
                  have hsum : ((csum y.st 5 : Nat) : Int) = (N : Int) := by rw [HSUM.out]
                  rw [hsum]
                  clear hsum HSUM HCS HCO
                  go_wp2
                  go_roundw
                  case rel => exact ⟨k + 1, y, T9, by omega, by go_num, H9.out, HT9.out, hT9, HX2⟩
                  case measure => simp [intOf]; omega
      by_cases k1 : kd = 1
      · subst k1
        have HS := Lib.hid (arState_aj HD.out.aj v)
        have HT9 := Lib.hid (HT.out.move v t)
        have HX2 : Hid ((arMvX x v t).st.length = N) := Lib.hid ((arMv_len x v t).trans HX.out)
        have b0 : (wr.alloc (.cells #[.int .i64 1, .int .i64 v, .int .i64 t] 34)).cell? ⟨wr.heap.size, 1, none⟩ = some (.int .i64 v) := by go_cell
        have b1 : (wr.alloc (.cells #[.int .i64 1, .int .i64 v, .int .i64 t] 34)).cell? ⟨wr.heap.size, 2, none⟩ = some (.int .i64 t) := by go_cell
        have hmix : Try.prog.follows .mixedOrders = true := by kernel_rfl
        have hfb : arSt x v ≤ 4 := by
          unfold arSt
          split
          · have := HD.out.aj.fit.s4 (v.toNat - 1)
            omega
          · omega
        have hfb0 : -1 ≤ arSt x v := by
          unfold arSt
          split <;> omega
        have hmt := @mv_told x v t
        generalize hmb : arMvB x v t = bb at *
        have HM0 := Lib.hid (fun W (h : OE w1 k B x u7 T [wr.heap.size] W) => arMove_aj h.aj v t)
        rw [hmb] at HM0
        have HFIN : Hid (bb = true → arSt (arMvX x v t) v = t ∧ t = arSt x v + 1) := Lib.hid (fun e => hmt (by rw [e]))
        clear hmt hmb
        generalize arMvX x v t = y at *
        generalize arSt x v = f at *
        go_wp2_with fail
        refine HS.out.mono ?_
        rintro e w3 ⟨rfl, rfl⟩
        clear HS HT HX
        go_upto_region 31 with (fail)
        generalize wr.heap.size = R at *
        generalize wr.alloc (.cells #[.int .i64 1, .int .i64 v, .int .i64 t] 34) = WB at *
        have HB0 := Lib.hid (And.intro b0 b1)
        have HM : Hid (Calls Try.prog 18 #[.pointer (some ⟨B, 0, none⟩), .int .i64 v, .int .i64 t] WB.drew fun e w' => e = .returned (.bool bb) ∧ (OE w1 k B y u7 T [R] w' ∧ w'.cell? ⟨R, 1, none⟩ = some (.int .i64 v) ∧ w'.cell? ⟨R, 2, none⟩ = some (.int .i64 t))) := Lib.hid <| by
          have hdd := HD.out.later ((Below.refl _ _).drew)
          refine (HM0.out _ hdd).mono ?_
          rintro e w' ⟨he, h4, hk4⟩
          exact ⟨he, hdd.keep h4 hk4, (World.cell?_of_block (a := ⟨R, 1, none⟩) (hk4 _ (.inr (List.mem_singleton.2 rfl)))).trans HB0.out.1, (World.cell?_of_block (a := ⟨R, 2, none⟩) (hk4 _ (.inr (List.mem_singleton.2 rfl)))).trans HB0.out.2⟩
        have HMF : Hid (∀ (e : Ending) (w' : World), (e = .returned (.bool bb) ∧ (OE w1 k B y u7 T [R] w' ∧ w'.cell? ⟨R, 1, none⟩ = some (.int .i64 v) ∧ w'.cell? ⟨R, 2, none⟩ = some (.int .i64 t))) → (OE w1 k B y u7 T [R] w' ∧ w'.cell? ⟨R, 1, none⟩ = some (.int .i64 v) ∧ w'.cell? ⟨R, 2, none⟩ = some (.int .i64 t))) := Lib.hid fun _ _ h => h.2
        have HCL : Hid (∀ L W, JTurn WB.drew (fun w' => OE w1 k B y u7 T [R] w' ∧ w'.cell? ⟨R, 1, none⟩ = some (.int .i64 v) ∧ w'.cell? ⟨R, 2, none⟩ = some (.int .i64 t)) 5 L W → W.cell? ⟨R, 1, none⟩ = some (.int .i64 v) ∧ W.cell? ⟨R, 2, none⟩ = some (.int .i64 t)) := Lib.hid fun L W hJ => by
          cases h5 : L 5 with
          | false => rw [hJ.1 h5]; exact HB0.out
          | true => exact (hJ.2 h5).2
        clear b0 b1 HM0 HD HB0
        cases bb with
        | true =>
          have M1 := HFIN.out rfl
          have HS4 : Hid (∀ W, (OE w1 k B y u7 T [R] W ∧ W.cell? ⟨R, 1, none⟩ = some (.int .i64 v) ∧ W.cell? ⟨R, 2, none⟩ = some (.int .i64 t)) → Calls Try.prog 21 #[.pointer (some ⟨B, 0, none⟩), .int .i64 v] W fun e w' => e = .returned (.int .i64 t) ∧ W = w') := Lib.hid fun W h => by
            have := arState_aj h.1.aj v
            rw [M1.1] at this
            exact this
          obtain rfl := M1.2
          clear M1 HFIN
          refine region_once 179 hmix rfl (VO [some (.pointer (some ⟨B, 0, none⟩)), some (.pointer (some ⟨R, 1, none⟩)), some (.int .i64 v), some (.pointer (some ⟨R, 2, none⟩)), some (.int .i64 (f + 1)), some (.bool true), some (.bool true), some (.pointer (some ⟨B, 0, none⟩)), some (.pointer (some ⟨R, 1, none⟩)), some (.int .i64 v), some (.int .i64 (f + 1)), some (.pointer (some ⟨R, 2, none⟩)), some (.int .i64 (f + 1)), some (.bool false), some (.bool false), some (.pointer (some ⟨R, 2, none⟩)), some (.int .i64 (f + 1)), some (.int .i64 f), some (.int .i64 (f + 1)), some (.bool false), some (.bool false), some (.bool false)]) (JTurn WB.drew (fun w' => OE w1 k B y u7 T [R] w' ∧ w'.cell? ⟨R, 1, none⟩ = some (.int .i64 v) ∧ w'.cell? ⟨R, 2, none⟩ = some (.int .i64 (f + 1))) 5) (by kernel_rfl) (JTurn.start _ _ _) ?steps [144, 145, 146, 147, 148, 149, 150, 151, 152, 153, 154, 155, 156, 157, 158, 159, 160, 161, 162, 163, 164, 165] rfl ?fin
          case steps =>
            refine ⟨?_, ?_, ?_, ?_, ?_, ?_, ?_, ?_, ?_, ?_, ?_, ?_, ?_, ?_, ?_, ?_, ?_, ?_, ?_, ?_, ?_, ?_, trivial⟩
            · intro L a W hJ ho hL hc hw
              have e5 : a.eval (.tmp 5) = .pointer (some ⟨B, 0, none⟩) := ho 5 rfl
              clear hc hw hL ho
              exact once_run (v := .pointer (some ⟨B, 0, none⟩)) (wantO_none rfl) (by simp only [execOp, e5]; rfl) (fun u hu => by simpa using hu) (hJ.read (by decide))
            · intro L a W hJ ho hL hc hw
              have e9 : a.eval (.tmp 9) = .pointer (some ⟨R, 0, none⟩) := ho 9 rfl
              clear hc hw hL ho
              exact once_run (v := .pointer (some ⟨R, 1, none⟩)) (wantO_none rfl) (by simp only [execOp, e9]; go_simp) (fun u hu => by simpa using hu) (hJ.read (by decide))
            · intro L a W hJ ho hL hc hw
              have e145 : a.eval (.tmp 145) = .pointer (some ⟨R, 1, none⟩) := (hw 1 rfl).2 145 rfl _ rfl
              obtain ⟨k0, k1⟩ := HCL.out L W hJ
              clear hc hw hL ho
              exact once_run (v := .int .i64 v) (wantO_none rfl) (by simp only [execOp, e145]; go_simp) (fun u hu => by simpa using hu) (hJ.read (by decide))
            · intro L a W hJ ho hL hc hw
              have e9 : a.eval (.tmp 9) = .pointer (some ⟨R, 0, none⟩) := ho 9 rfl
              clear hc hw hL ho
              exact once_run (v := .pointer (some ⟨R, 2, none⟩)) (wantO_none rfl) (by simp only [execOp, e9]; go_simp) (fun u hu => by simpa using hu) (hJ.read (by decide))
            · intro L a W hJ ho hL hc hw
              have e147 : a.eval (.tmp 147) = .pointer (some ⟨R, 2, none⟩) := (hw 3 rfl).2 147 rfl _ rfl
              obtain ⟨k0, k1⟩ := HCL.out L W hJ
              clear hc hw hL ho
              exact once_run (v := .int .i64 (f + 1)) (wantO_none rfl) (by simp only [execOp, e147]; go_simp) (fun u hu => by simpa using hu) (hJ.read (by decide))
            · intro L a W hJ ho hL hc hw
              have e144 : a.eval (.tmp 144) = .pointer (some ⟨B, 0, none⟩) := (hw 0 rfl).2 144 rfl _ rfl
              have e146 : a.eval (.tmp 146) = .int .i64 v := (hw 2 rfl).2 146 rfl _ rfl
              have e148 : a.eval (.tmp 148) = .int .i64 (f + 1) := (hw 4 rfl).2 148 rfl _ rfl
              exact once_call (wantO_none rfl) rfl (args := #[.pointer (some ⟨B, 0, none⟩), .int .i64 v, .int .i64 (f + 1)]) (by simp [e144, e146, e148]) (by go_simp) (by rw [hJ.1 hL]; exact HM.out) (fun e W' h => ⟨_, h.1, (fun u hu => by simpa using hu), JTurn.turn (HMF.out e W' h)⟩)
            · intro L a W hJ ho hL hc hw
              have e149 : a.eval (.tmp 149) = .bool true := (hw 5 rfl).2 149 rfl _ rfl
              clear hc hw hL ho
              exact once_run (v := .bool true) (wantO_none rfl) (by simp only [execOp, e149]; rfl) (fun u hu => by simpa using hu) (hJ.read (by decide))
            · intro L a W hJ ho hL hc hw
              have e5 : a.eval (.tmp 5) = .pointer (some ⟨B, 0, none⟩) := ho 5 rfl
              have eg : a.eval (.tmp 150) = .bool true := (hw 6 rfl).2 150 rfl _ rfl
              clear hc hw hL ho
              exact once_run (v := .pointer (some ⟨B, 0, none⟩)) (wantO_some rfl rfl eg) (by simp only [execOp, e5]; rfl) (fun u hu => by simpa using hu) (hJ.read (by decide))
            · intro L a W hJ ho hL hc hw
              have e9 : a.eval (.tmp 9) = .pointer (some ⟨R, 0, none⟩) := ho 9 rfl
              have eg : a.eval (.tmp 150) = .bool true := (hw 6 rfl).2 150 rfl _ rfl
              clear hc hw hL ho
              exact once_run (v := .pointer (some ⟨R, 1, none⟩)) (wantO_some rfl rfl eg) (by simp only [execOp, e9]; go_simp) (fun u hu => by simpa using hu) (hJ.read (by decide))
            · intro L a W hJ ho hL hc hw
              have e152 : a.eval (.tmp 152) = .pointer (some ⟨R, 1, none⟩) := (hw 8 rfl).2 152 rfl _ rfl
              have eg : a.eval (.tmp 150) = .bool true := (hw 6 rfl).2 150 rfl _ rfl
              obtain ⟨k0, k1⟩ := HCL.out L W hJ
              clear hc hw hL ho
              exact once_run (v := .int .i64 v) (wantO_some rfl rfl eg) (by simp only [execOp, e152]; go_simp) (fun u hu => by simpa using hu) (hJ.read (by decide))
            · intro L a W hJ ho hL hc hw
              have e151 : a.eval (.tmp 151) = .pointer (some ⟨B, 0, none⟩) := (hw 7 rfl).2 151 rfl _ rfl
              have e153 : a.eval (.tmp 153) = .int .i64 v := (hw 9 rfl).2 153 rfl _ rfl
              have eg : a.eval (.tmp 150) = .bool true := (hw 6 rfl).2 150 rfl _ rfl
              have hla : L 5 = true := hc 6 5 rfl (hw 6 rfl).1
              exact once_call (wantO_some rfl rfl eg) rfl (args := #[.pointer (some ⟨B, 0, none⟩), .int .i64 v]) (by simp [e151, e153]) (by go_simp) (HS4.out W (hJ.2 hla)) (fun e W' h => ⟨_, h.1, (fun u hu => by simpa using hu), by rw [← h.2]; exact hJ.read (by decide)⟩)
            · intro L a W hJ ho hL hc hw
              have e9 : a.eval (.tmp 9) = .pointer (some ⟨R, 0, none⟩) := ho 9 rfl
              have eg : a.eval (.tmp 150) = .bool true := (hw 6 rfl).2 150 rfl _ rfl
              clear hc hw hL ho
              exact once_run (v := .pointer (some ⟨R, 2, none⟩)) (wantO_some rfl rfl eg) (by simp only [execOp, e9]; go_simp) (fun u hu => by simpa using hu) (hJ.read (by decide))
            · intro L a W hJ ho hL hc hw
              have e155 : a.eval (.tmp 155) = .pointer (some ⟨R, 2, none⟩) := (hw 11 rfl).2 155 rfl _ rfl
              have eg : a.eval (.tmp 150) = .bool true := (hw 6 rfl).2 150 rfl _ rfl
              obtain ⟨k0, k1⟩ := HCL.out L W hJ
              clear hc hw hL ho
              exact once_run (v := .int .i64 (f + 1)) (wantO_some rfl rfl eg) (by simp only [execOp, e155]; go_simp) (fun u hu => by simpa using hu) (hJ.read (by decide))
            · intro L a W hJ ho hL hc hw
              have e154 : a.eval (.tmp 154) = .int .i64 (f + 1) := (hw 10 rfl).2 154 rfl _ rfl
              have e156 : a.eval (.tmp 156) = .int .i64 (f + 1) := (hw 12 rfl).2 156 rfl _ rfl
              have eg : a.eval (.tmp 150) = .bool true := (hw 6 rfl).2 150 rfl _ rfl
              clear hc hw hL ho
              exact once_run (v := .bool false) (wantO_some rfl rfl eg) (by simp only [execOp, e154, e156]; go_simp) (fun u hu => by simpa using hu) (hJ.read (by decide))
            · intro L a W hJ ho hL hc hw
              have e157 : a.eval (.tmp 157) = .bool false := (hw 13 rfl).2 157 rfl _ rfl
              have eg : a.eval (.tmp 150) = .bool true := (hw 6 rfl).2 150 rfl _ rfl
              clear hc hw hL ho
              exact once_run (v := .bool false) (wantO_some rfl rfl eg) (by simp only [execOp, e157]; rfl) (fun u hu => by simpa using hu) (hJ.read (by decide))
            · intro L a W hJ ho hL hc hw
              have e9 : a.eval (.tmp 9) = .pointer (some ⟨R, 0, none⟩) := ho 9 rfl
              have eg : a.eval (.tmp 158) = .bool false := (hw 14 rfl).2 158 rfl _ rfl
              clear hc hw hL ho
              exact once_run (v := .pointer (some ⟨R, 2, none⟩)) (wantO_some rfl rfl eg) (by simp only [execOp, e9]; go_simp) (fun u hu => by simpa using hu) (hJ.read (by decide))
            · intro L a W hJ ho hL hc hw
              have e159 : a.eval (.tmp 159) = .pointer (some ⟨R, 2, none⟩) := (hw 15 rfl).2 159 rfl _ rfl
              have eg : a.eval (.tmp 158) = .bool false := (hw 14 rfl).2 158 rfl _ rfl
              obtain ⟨k0, k1⟩ := HCL.out L W hJ
              clear hc hw hL ho
              exact once_run (v := .int .i64 (f + 1)) (wantO_some rfl rfl eg) (by simp only [execOp, e159]; go_simp) (fun u hu => by simpa using hu) (hJ.read (by decide))
            · intro L a W hJ ho hL hc hw
              have e15 : a.eval (.tmp 15) = .int .i64 f := ho 15 rfl
              have eg : a.eval (.tmp 158) = .bool false := (hw 14 rfl).2 158 rfl _ rfl
              clear hc hw hL ho
              exact once_run (v := .int .i64 f) (wantO_some rfl rfl eg) (by simp only [execOp, e15]; rfl) (fun u hu => by simpa using hu) (hJ.read (by decide))
            · intro L a W hJ ho hL hc hw
              have e161 : a.eval (.tmp 161) = .int .i64 f := (hw 17 rfl).2 161 rfl _ rfl
              have eg : a.eval (.tmp 158) = .bool false := (hw 14 rfl).2 158 rfl _ rfl
              clear hc hw hL ho
              exact once_run (v := .int .i64 (f + 1)) (wantO_some rfl rfl eg) (by simp only [execOp, e161]; go_simp; rw [IntKind.wrap_i64]; omega) (fun u hu => by simpa using hu) (hJ.read (by decide))
            · intro L a W hJ ho hL hc hw
              have e160 : a.eval (.tmp 160) = .int .i64 (f + 1) := (hw 16 rfl).2 160 rfl _ rfl
              have e162 : a.eval (.tmp 162) = .int .i64 (f + 1) := (hw 18 rfl).2 162 rfl _ rfl
              have eg : a.eval (.tmp 158) = .bool false := (hw 14 rfl).2 158 rfl _ rfl
              clear hc hw hL ho
              exact once_run (v := .bool false) (wantO_some rfl rfl eg) (by simp only [execOp, e160, e162]; go_simp) (fun u hu => by simpa using hu) (hJ.read (by decide))
            · intro L a W hJ ho hL hc hw
              have e158 : a.eval (.tmp 158) = .bool false := (hw 14 rfl).2 158 rfl _ rfl
              have e163 : a.eval (.tmp 163) = .bool false := (hw 19 rfl).2 163 rfl _ rfl
              have eg : a.eval (.tmp 150) = .bool true := (hw 6 rfl).2 150 rfl _ rfl
              clear hc hw hL ho
              exact once_run (v := .bool false) (wantO_some rfl rfl eg) (by simp only [execOp, e158, e163]; go_simp) (fun u hu => by simpa using hu) (hJ.read (by decide))
            · intro L a W hJ ho hL hc hw
              have e150 : a.eval (.tmp 150) = .bool true := (hw 6 rfl).2 150 rfl _ rfl
              have e164 : a.eval (.tmp 164) = .bool false := (hw 20 rfl).2 164 rfl _ rfl
              clear hc hw hL ho
              exact once_run (v := .bool false) (wantO_none rfl) (by simp only [execOp, e150, e164]; go_simp) (fun u hu => by simpa using hu) (hJ.read (by decide))
          case fin =>
            intro L gg W hJ hall hv
            have g144 : gg 144 = .pointer (some ⟨B, 0, none⟩) := hv 0 144 rfl _ rfl
            have g145 : gg 145 = .pointer (some ⟨R, 1, none⟩) := hv 1 145 rfl _ rfl
            have g146 : gg 146 = .int .i64 v := hv 2 146 rfl _ rfl
            have g147 : gg 147 = .pointer (some ⟨R, 2, none⟩) := hv 3 147 rfl _ rfl
            have g148 : gg 148 = .int .i64 (f + 1) := hv 4 148 rfl _ rfl
            have g149 : gg 149 = .bool true := hv 5 149 rfl _ rfl
            have g150 : gg 150 = .bool true := hv 6 150 rfl _ rfl
            have g151 : gg 151 = .pointer (some ⟨B, 0, none⟩) := hv 7 151 rfl _ rfl
            have g152 : gg 152 = .pointer (some ⟨R, 1, none⟩) := hv 8 152 rfl _ rfl
            have g153 : gg 153 = .int .i64 v := hv 9 153 rfl _ rfl
            have g154 : gg 154 = .int .i64 (f + 1) := hv 10 154 rfl _ rfl
            have g155 : gg 155 = .pointer (some ⟨R, 2, none⟩) := hv 11 155 rfl _ rfl
            have g156 : gg 156 = .int .i64 (f + 1) := hv 12 156 rfl _ rfl
            have g157 : gg 157 = .bool false := hv 13 157 rfl _ rfl
            have g158 : gg 158 = .bool false := hv 14 158 rfl _ rfl
            have g159 : gg 159 = .pointer (some ⟨R, 2, none⟩) := hv 15 159 rfl _ rfl
            have g160 : gg 160 = .int .i64 (f + 1) := hv 16 160 rfl _ rfl
            have g161 : gg 161 = .int .i64 f := hv 17 161 rfl _ rfl
            have g162 : gg 162 = .int .i64 (f + 1) := hv 18 162 rfl _ rfl
            have g163 : gg 163 = .bool false := hv 19 163 rfl _ rfl
            have g164 : gg 164 = .bool false := hv 20 164 rfl _ rfl
            have g165 : gg 165 = .bool false := hv 21 165 rfl _ rfl
            simp only [List.foldl_cons, List.foldl_nil, List.setIfInBounds_toArray, List.set_cons_succ, List.set_cons_zero, g144, g145, g146, g147, g148, g149, g150, g151, g152, g153, g154, g155, g156, g157, g158, g159, g160, g161, g162, g163, g164, g165]
            clear g144 g145 g146 g147 g148 g149 g150 g151 g152 g153 g154 g155 g156 g157 g158 g159 g160 g161 g162 g163 g164 g165 hv
            have H9 := Lib.hid (((hJ.2 (hall 5 (by decide))).1.drop (D' := []) (fun _ h => by cases h)).more (Nat.le_succ k))
            have hT9 : T.length ≤ k + 1 := by omega
            obtain ⟨W9, rfl⟩ : ∃ W9, W9 = W := ⟨_, rfl⟩
            obtain ⟨T9, rfl⟩ : ∃ T9, T9 = T := ⟨_, rfl⟩
            clear hJ hall HM HMF HCL HS4
            go_wp2
            have HSUM := Lib.hid (show csum y.st 5 = N from H9.out.aj.fit.csum.trans HX2.out)
            have hfew := H9.out.aj.fit.few
            have HCS := Lib.hid (fun j => csum_le y.st j)
            have HCO := Lib.hid (fun (j : Nat) (hj : j < 5) => by
              have := arCount_aj H9.out.aj (j : Int)
              rw [arCnt_in hj] at this
              exact this)
            go_loopw [17, 18] (fun a s wr => ∃ j : Nat, j ≤ 5 ∧ s = .int .i64 (j : Int) ∧ a = .int .i64 (csum y.st j : Int) ∧ wr = W9) (fun _ s _ => 5 - (intOf s).toNat)
            case atStart => exact ⟨0, Nat.zero_le _, rfl, rfl, rfl⟩
            case round =>
              obtain ⟨j, hj, rfl, rfl, rfl⟩ := hrel
              by_cases hj5 : j < 5
              · have hj6 : (j : Int) < 5 := by omega
                have hj7 : (0 : Int) ≤ (j : Int) := by omega
                have hcc := HCO.out j hj5
                have hci := csum_i (x := y) j
                have hc1 := HCS.out j
                have hc2 := HCS.out (j + 1)
                obtain ⟨a0, ha0⟩ : ∃ a : Nat, csum y.st j = a := ⟨_, rfl⟩
                obtain ⟨a1, ha1⟩ : ∃ a : Nat, csum y.st (j + 1) = a := ⟨_, rfl⟩
                obtain ⟨a2, ha2⟩ : ∃ a : Nat, y.st.count j = a := ⟨_, rfl⟩
                rw [ha2] at hcc hci
                rw [ha0] at hci hc1
                rw [ha1] at hci hc2
                rw [ha0]
                have HA1 := Lib.hid ha1
                have HCI := Lib.hid hci
                have HCC := Lib.hid hcc
                have hb0 : (a0 : Int) ≤ 4096 := by omega
                have hb2 : (a2 : Int) ≤ 4096 := by omega
                have hb3 : (0 : Int) ≤ (a0 : Int) := by omega
                have hb4 : (0 : Int) ≤ (a2 : Int) := by omega
                clear ha0 ha1 ha2 hci hc1 hc2 hcc HCO HCS
                go_wp2_with fail
                refine HCC.out.mono ?_
                rintro e w8 ⟨rfl, rfl⟩
                clear HCC
                go_wp2
                go_roundw
                case rel => exact ⟨j + 1, by omega, by go_num, by rw [HA1.out, HCI.out], by first | exact rfl | trivial⟩
                case measure => simp [intOf]; omega
              · obtain rfl : j = 5 := by omega
                have hsum : ((csum y.st 5 : Nat) : Int) = (N : Int) := by rw [HSUM.out]
                rw [hsum]
                clear hsum HSUM HCS HCO
                go_wp2
                go_roundw
                case rel => exact ⟨k + 1, y, T9, by omega, by go_num, H9.out, HT9.out, hT9, HX2⟩
                case measure => simp [intOf]; omega
        | false =>
          clear HFIN
          refine region_once 179 hmix rfl (VO [some (.pointer (some ⟨B, 0, none⟩)), some (.pointer (some ⟨R, 1, none⟩)), some (.int .i64 v), some (.pointer (some ⟨R, 2, none⟩)), some (.int .i64 t), some (.bool false), some (.bool false), some (undef), some (undef), some (undef), some (undef), some (undef), some (undef), some (undef), some (undef), some (undef), some (undef), some (undef), some (undef), some (undef), some (undef), some (.bool false)]) (JTurn WB.drew (fun w' => OE w1 k B y u7 T [R] w' ∧ w'.cell? ⟨R, 1, none⟩ = some (.int .i64 v) ∧ w'.cell? ⟨R, 2, none⟩ = some (.int .i64 t)) 5) (by kernel_rfl) (JTurn.start _ _ _) ?steps [144, 145, 146, 147, 148, 149, 150, 151, 152, 153, 154, 155, 156, 157, 158, 159, 160, 161, 162, 163, 164, 165] rfl ?fin
          case steps =>
            refine ⟨?_, ?_, ?_, ?_, ?_, ?_, ?_, ?_, ?_, ?_, ?_, ?_, ?_, ?_, ?_, ?_, ?_, ?_, ?_, ?_, ?_, ?_, trivial⟩
            · intro L a W hJ ho hL hc hw
              have e5 : a.eval (.tmp 5) = .pointer (some ⟨B, 0, none⟩) := ho 5 rfl
              clear hc hw hL ho
              exact once_run (v := .pointer (some ⟨B, 0, none⟩)) (wantO_none rfl) (by simp only [execOp, e5]; rfl) (fun u hu => by simpa using hu) (hJ.read (by decide))
            · intro L a W hJ ho hL hc hw
              have e9 : a.eval (.tmp 9) = .pointer (some ⟨R, 0, none⟩) := ho 9 rfl
              clear hc hw hL ho
              exact once_run (v := .pointer (some ⟨R, 1, none⟩)) (wantO_none rfl) (by simp only [execOp, e9]; go_simp) (fun u hu => by simpa using hu) (hJ.read (by decide))
            · intro L a W hJ ho hL hc hw
              have e145 : a.eval (.tmp 145) = .pointer (some ⟨R, 1, none⟩) := (hw 1 rfl).2 145 rfl _ rfl
              obtain ⟨k0, k1⟩ := HCL.out L W hJ
              clear hc hw hL ho
              exact once_run (v := .int .i64 v) (wantO_none rfl) (by simp only [execOp, e145]; go_simp) (fun u hu => by simpa using hu) (hJ.read (by decide))
            · intro L a W hJ ho hL hc hw
              have e9 : a.eval (.tmp 9) = .pointer (some ⟨R, 0, none⟩) := ho 9 rfl
              clear hc hw hL ho
              exact once_run (v := .pointer (some ⟨R, 2, none⟩)) (wantO_none rfl) (by simp only [execOp, e9]; go_simp) (fun u hu => by simpa using hu) (hJ.read (by decide))
            · intro L a W hJ ho hL hc hw
              have e147 : a.eval (.tmp 147) = .pointer (some ⟨R, 2, none⟩) := (hw 3 rfl).2 147 rfl _ rfl
              obtain ⟨k0, k1⟩ := HCL.out L W hJ
              clear hc hw hL ho
              exact once_run (v := .int .i64 t) (wantO_none rfl) (by simp only [execOp, e147]; go_simp) (fun u hu => by simpa using hu) (hJ.read (by decide))
            · intro L a W hJ ho hL hc hw
              have e144 : a.eval (.tmp 144) = .pointer (some ⟨B, 0, none⟩) := (hw 0 rfl).2 144 rfl _ rfl
              have e146 : a.eval (.tmp 146) = .int .i64 v := (hw 2 rfl).2 146 rfl _ rfl
              have e148 : a.eval (.tmp 148) = .int .i64 t := (hw 4 rfl).2 148 rfl _ rfl
              exact once_call (wantO_none rfl) rfl (args := #[.pointer (some ⟨B, 0, none⟩), .int .i64 v, .int .i64 t]) (by simp [e144, e146, e148]) (by go_simp) (by rw [hJ.1 hL]; exact HM.out) (fun e W' h => ⟨_, h.1, (fun u hu => by simpa using hu), JTurn.turn (HMF.out e W' h)⟩)
            · intro L a W hJ ho hL hc hw
              have e149 : a.eval (.tmp 149) = .bool false := (hw 5 rfl).2 149 rfl _ rfl
              clear hc hw hL ho
              exact once_run (v := .bool false) (wantO_none rfl) (by simp only [execOp, e149]; rfl) (fun u hu => by simpa using hu) (hJ.read (by decide))
            · intro L a W hJ ho hL hc hw
              have eg : a.eval (.tmp 150) = .bool false := (hw 6 rfl).2 150 rfl _ rfl
              exact once_not (wantO_not rfl rfl eg) (fun u hu => by simpa using hu) (hJ.read (by decide))
            · intro L a W hJ ho hL hc hw
              have eg : a.eval (.tmp 150) = .bool false := (hw 6 rfl).2 150 rfl _ rfl
              exact once_not (wantO_not rfl rfl eg) (fun u hu => by simpa using hu) (hJ.read (by decide))
            · intro L a W hJ ho hL hc hw
              have eg : a.eval (.tmp 150) = .bool false := (hw 6 rfl).2 150 rfl _ rfl
              exact once_not (wantO_not rfl rfl eg) (fun u hu => by simpa using hu) (hJ.read (by decide))
            · intro L a W hJ ho hL hc hw
              have eg : a.eval (.tmp 150) = .bool false := (hw 6 rfl).2 150 rfl _ rfl
              exact once_not (wantO_not rfl rfl eg) (fun u hu => by simpa using hu) (hJ.read (by decide))
            · intro L a W hJ ho hL hc hw
              have eg : a.eval (.tmp 150) = .bool false := (hw 6 rfl).2 150 rfl _ rfl
              exact once_not (wantO_not rfl rfl eg) (fun u hu => by simpa using hu) (hJ.read (by decide))
            · intro L a W hJ ho hL hc hw
              have eg : a.eval (.tmp 150) = .bool false := (hw 6 rfl).2 150 rfl _ rfl
              exact once_not (wantO_not rfl rfl eg) (fun u hu => by simpa using hu) (hJ.read (by decide))
            · intro L a W hJ ho hL hc hw
              have eg : a.eval (.tmp 150) = .bool false := (hw 6 rfl).2 150 rfl _ rfl
              exact once_not (wantO_not rfl rfl eg) (fun u hu => by simpa using hu) (hJ.read (by decide))
            · intro L a W hJ ho hL hc hw
              have eg : a.eval (.tmp 150) = .bool false := (hw 6 rfl).2 150 rfl _ rfl
              exact once_not (wantO_not rfl rfl eg) (fun u hu => by simpa using hu) (hJ.read (by decide))
            · intro L a W hJ ho hL hc hw
              have e158 : a.eval (.tmp 158) = undef := (hw 14 rfl).2 158 rfl _ rfl
              exact once_not (wantO_undef rfl rfl e158) (fun u hu => by simpa using hu) (hJ.read (by decide))
            · intro L a W hJ ho hL hc hw
              have e158 : a.eval (.tmp 158) = undef := (hw 14 rfl).2 158 rfl _ rfl
              exact once_not (wantO_undef rfl rfl e158) (fun u hu => by simpa using hu) (hJ.read (by decide))
            · intro L a W hJ ho hL hc hw
              have e158 : a.eval (.tmp 158) = undef := (hw 14 rfl).2 158 rfl _ rfl
              exact once_not (wantO_undef rfl rfl e158) (fun u hu => by simpa using hu) (hJ.read (by decide))
            · intro L a W hJ ho hL hc hw
              have e158 : a.eval (.tmp 158) = undef := (hw 14 rfl).2 158 rfl _ rfl
              exact once_not (wantO_undef rfl rfl e158) (fun u hu => by simpa using hu) (hJ.read (by decide))
            · intro L a W hJ ho hL hc hw
              have e158 : a.eval (.tmp 158) = undef := (hw 14 rfl).2 158 rfl _ rfl
              exact once_not (wantO_undef rfl rfl e158) (fun u hu => by simpa using hu) (hJ.read (by decide))
            · intro L a W hJ ho hL hc hw
              have eg : a.eval (.tmp 150) = .bool false := (hw 6 rfl).2 150 rfl _ rfl
              exact once_not (wantO_not rfl rfl eg) (fun u hu => by simpa using hu) (hJ.read (by decide))
            · intro L a W hJ ho hL hc hw
              have e150 : a.eval (.tmp 150) = .bool false := (hw 6 rfl).2 150 rfl _ rfl
              clear hc hw hL ho
              exact once_run (v := .bool false) (wantO_none rfl) (by simp only [execOp, e150]; go_simp) (fun u hu => by simpa using hu) (hJ.read (by decide))
          case fin =>
            intro L gg W hJ hall hv
            have g144 : gg 144 = .pointer (some ⟨B, 0, none⟩) := hv 0 144 rfl _ rfl
            have g145 : gg 145 = .pointer (some ⟨R, 1, none⟩) := hv 1 145 rfl _ rfl
            have g146 : gg 146 = .int .i64 v := hv 2 146 rfl _ rfl
            have g147 : gg 147 = .pointer (some ⟨R, 2, none⟩) := hv 3 147 rfl _ rfl
            have g148 : gg 148 = .int .i64 t := hv 4 148 rfl _ rfl
            have g149 : gg 149 = .bool false := hv 5 149 rfl _ rfl
            have g150 : gg 150 = .bool false := hv 6 150 rfl _ rfl
            have g151 : gg 151 = undef := hv 7 151 rfl _ rfl
            have g152 : gg 152 = undef := hv 8 152 rfl _ rfl
            have g153 : gg 153 = undef := hv 9 153 rfl _ rfl
            have g154 : gg 154 = undef := hv 10 154 rfl _ rfl
            have g155 : gg 155 = undef := hv 11 155 rfl _ rfl
            have g156 : gg 156 = undef := hv 12 156 rfl _ rfl
            have g157 : gg 157 = undef := hv 13 157 rfl _ rfl
            have g158 : gg 158 = undef := hv 14 158 rfl _ rfl
            have g159 : gg 159 = undef := hv 15 159 rfl _ rfl
            have g160 : gg 160 = undef := hv 16 160 rfl _ rfl
            have g161 : gg 161 = undef := hv 17 161 rfl _ rfl
            have g162 : gg 162 = undef := hv 18 162 rfl _ rfl
            have g163 : gg 163 = undef := hv 19 163 rfl _ rfl
            have g164 : gg 164 = undef := hv 20 164 rfl _ rfl
            have g165 : gg 165 = .bool false := hv 21 165 rfl _ rfl
            simp only [List.foldl_cons, List.foldl_nil, List.setIfInBounds_toArray, List.set_cons_succ, List.set_cons_zero, g144, g145, g146, g147, g148, g149, g150, g151, g152, g153, g154, g155, g156, g157, g158, g159, g160, g161, g162, g163, g164, g165]
            clear g144 g145 g146 g147 g148 g149 g150 g151 g152 g153 g154 g155 g156 g157 g158 g159 g160 g161 g162 g163 g164 g165 hv
            have H9 := Lib.hid (((hJ.2 (hall 5 (by decide))).1.drop (D' := []) (fun _ h => by cases h)).more (Nat.le_succ k))
            have hT9 : T.length ≤ k + 1 := by omega
            obtain ⟨W9, rfl⟩ : ∃ W9, W9 = W := ⟨_, rfl⟩
            obtain ⟨T9, rfl⟩ : ∃ T9, T9 = T := ⟨_, rfl⟩
            clear hJ hall HM HMF HCL
            go_wp2
            have HSUM := Lib.hid (show csum y.st 5 = N from H9.out.aj.fit.csum.trans HX2.out)
            have hfew := H9.out.aj.fit.few
            have HCS := Lib.hid (fun j => csum_le y.st j)
            have HCO := Lib.hid (fun (j : Nat) (hj : j < 5) => by
              have := arCount_aj H9.out.aj (j : Int)
              rw [arCnt_in hj] at this
              exact this)
            go_loopw [17, 18] (fun a s wr => ∃ j : Nat, j ≤ 5 ∧ s = .int .i64 (j : Int) ∧ a = .int .i64 (csum y.st j : Int) ∧ wr = W9) (fun _ s _ => 5 - (intOf s).toNat)
            case atStart => exact ⟨0, Nat.zero_le _, rfl, rfl, rfl⟩
            case round =>
              obtain ⟨j, hj, rfl, rfl, rfl⟩ := hrel
              by_cases hj5 : j < 5
              · have hj6 : (j : Int) < 5 := by omega
                have hj7 : (0 : Int) ≤ (j : Int) := by omega
                have hcc := HCO.out j hj5
                have hci := csum_i (x := y) j
                have hc1 := HCS.out j
                have hc2 := HCS.out (j + 1)
                obtain ⟨a0, ha0⟩ : ∃ a : Nat, csum y.st j = a := ⟨_, rfl⟩
                obtain ⟨a1, ha1⟩ : ∃ a : Nat, csum y.st (j + 1) = a := ⟨_, rfl⟩
                obtain ⟨a2, ha2⟩ : ∃ a : Nat, y.st.count j = a := ⟨_, rfl⟩
                rw [ha2] at hcc hci
                rw [ha0] at hci hc1
                rw [ha1] at hci hc2
                rw [ha0]
                have HA1 := Lib.hid ha1
                have HCI := Lib.hid hci
                have HCC := Lib.hid hcc
                have hb0 : (a0 : Int) ≤ 4096 := by omega
                have hb2 : (a2 : Int) ≤ 4096 := by omega
                have hb3 : (0 : Int) ≤ (a0 : Int) := by omega
                have hb4 : (0 : Int) ≤ (a2 : Int) := by omega
                clear ha0 ha1 ha2 hci hc1 hc2 hcc HCO HCS
                go_wp2_with fail
                refine HCC.out.mono ?_
                rintro e w8 ⟨rfl, rfl⟩
                clear HCC
                go_wp2
                go_roundw
                case rel => exact ⟨j + 1, by omega, by go_num, by rw [HA1.out, HCI.out], by first | exact rfl | trivial⟩
                case measure => simp [intOf]; omega
              · obtain rfl : j = 5 := by omega
                have hsum : ((csum y.st 5 : Nat) : Int) = (N : Int) := by rw [HSUM.out]
                rw [hsum]
                clear hsum HSUM HCS HCO
                go_wp2
                go_roundw
                case rel => exact ⟨k + 1, y, T9, by omega, by go_num, H9.out, HT9.out, hT9, HX2⟩
                case measure => simp [intOf]; omega
      · have k0b : (kd == 0) = false := by simpa using k0
        have k1b : (kd == 1) = false := by simpa using k1
        have HG := Lib.hid (arGen_aj HD.out.aj v)
        have HM := Lib.hid (arFree_aj HD.out.aj (by omega) v)
        have HT9 := Lib.hid (HT.out.free HD.out.aj.fit v)
        have HX2 : Hid ((arFrX x v).st.length = N) := Lib.hid ((arFr_len x v).trans HX.out)
        have b0 : (wr.alloc (.cells #[.int .i64 kd, .int .i64 v, .int .i64 t] 34)).cell? ⟨wr.heap.size, 1, none⟩ = some (.int .i64 v) := by go_cell
        cases hmb : arFrB x v with
        | true =>
          obtain ⟨m1, m2⟩ := fr_told HD.out.aj.fit hmb
          have M1 := Lib.hid (And.intro m1 m2)
          have hgb : arGn x v ≤ 100000 := by
            unfold arGn
            split
            · have := HD.out.aj.fit.gb (v.toNat - 1)
              omega
            · omega
          have hgb0 : -1 ≤ arGn x v := by
            unfold arGn
            split <;> omega
          clear m1 m2
          rw [hmb] at HM
          generalize arFrX x v = y at *
          generalize arGn x v = f at *
          have t1 : (f + 1 != f + 1) = false := by simp
          clear HT HX hmb
          go_wp2_with fail
          refine HG.out.mono ?_
          rintro e w3 ⟨rfl, rfl⟩
          clear HG
          go_wp2_with fail
          refine HM.out.mono ?_
          rintro e w4 ⟨rfl, h4, hk4⟩
          have H4 := Lib.hid (HD.out.keep h4 hk4)
          have HS4 := Lib.hid (arState_aj h4 v)
          have HG4 := Lib.hid (arGen_aj h4 v)
          rw [M1.out.1] at HS4
          rw [M1.out.2] at HG4
          have c0 := (World.cell?_of_block (a := ⟨wr.heap.size, 1, none⟩) (hk4 _ (.inr (List.mem_singleton.2 rfl)))).trans b0
          clear h4 hk4 M1 b0 HD HM
          go_wp2_with fail
          refine HS4.out.mono ?_
          rintro e w5 ⟨rfl, rfl⟩
          go_wp2_with fail
          refine HG4.out.mono ?_
          rintro e w5 ⟨rfl, rfl⟩
          have H9 := Lib.hid (H4.out.drop (D' := []) (fun _ h => by cases h))
          have hT9 : T.length ≤ k + 1 := by omega
          obtain ⟨W9, rfl⟩ : ∃ W9, W9 = w4 := ⟨_, rfl⟩
          obtain ⟨T9, rfl⟩ : ∃ T9, T9 = T := ⟨_, rfl⟩
          clear H4 HS4 HG4 c0 t1
          go_wp2
          have HSUM := Lib.hid (show csum y.st 5 = N from H9.out.aj.fit.csum.trans HX2.out)
          have hfew := H9.out.aj.fit.few
          have HCS := Lib.hid (fun j => csum_le y.st j)
          have HCO := Lib.hid (fun (j : Nat) (hj : j < 5) => by
            have := arCount_aj H9.out.aj (j : Int)
            rw [arCnt_in hj] at this
            exact this)
          go_loopw [17, 18] (fun a s wr => ∃ j : Nat, j ≤ 5 ∧ s = .int .i64 (j : Int) ∧ a = .int .i64 (csum y.st j : Int) ∧ wr = W9) (fun _ s _ => 5 - (intOf s).toNat)
          case atStart => exact ⟨0, Nat.zero_le _, rfl, rfl, rfl⟩
          case round =>
            obtain ⟨j, hj, rfl, rfl, rfl⟩ := hrel
            by_cases hj5 : j < 5
            · have hj6 : (j : Int) < 5 := by omega
              have hj7 : (0 : Int) ≤ (j : Int) := by omega
              have hcc := HCO.out j hj5
              have hci := csum_i (x := y) j
              have hc1 := HCS.out j
              have hc2 := HCS.out (j + 1)
              obtain ⟨a0, ha0⟩ : ∃ a : Nat, csum y.st j = a := ⟨_, rfl⟩
              obtain ⟨a1, ha1⟩ : ∃ a : Nat, csum y.st (j + 1) = a := ⟨_, rfl⟩
              obtain ⟨a2, ha2⟩ : ∃ a : Nat, y.st.count j = a := ⟨_, rfl⟩
              rw [ha2] at hcc hci
              rw [ha0] at hci hc1
              rw [ha1] at hci hc2
              rw [ha0]
              have HA1 := Lib.hid ha1
              have HCI := Lib.hid hci
              have HCC := Lib.hid hcc
              have hb0 : (a0 : Int) ≤ 4096 := by omega
              have hb2 : (a2 : Int) ≤ 4096 := by omega
              have hb3 : (0 : Int) ≤ (a0 : Int) := by omega
              have hb4 : (0 : Int) ≤ (a2 : Int) := by omega
              clear ha0 ha1 ha2 hci hc1 hc2 hcc HCO HCS
              go_wp2_with fail
              refine HCC.out.mono ?_
              rintro e w8 ⟨rfl, rfl⟩
              clear HCC
              go_wp2
              go_roundw
              case rel => exact ⟨j + 1, by omega, by go_num, by rw [HA1.out, HCI.out], by first | exact rfl | trivial⟩
              case measure => simp [intOf]; omega
            · obtain rfl : j = 5 := by omega
              have hsum : ((csum y.st 5 : Nat) : Int) = (N : Int) := by rw [HSUM.out]
              rw [hsum]
              clear hsum HSUM HCS HCO
              go_wp2
              go_roundw
              case rel => exact ⟨k + 1, y, T9, by omega, by go_num, H9.out, HT9.out, hT9, HX2⟩
              case measure => simp [intOf]; omega
        | false =>
          rw [hmb] at HM
          generalize arFrX x v = y at *
          generalize arGn x v = f at *
          clear HT HX hmb
          go_wp2_with fail
          refine HG.out.mono ?_
          rintro e w3 ⟨rfl, rfl⟩
          clear HG
          go_wp2_with fail
          refine HM.out.mono ?_
          rintro e w4 ⟨rfl, h4, hk4⟩
          have H9 := Lib.hid ((HD.out.keep h4 hk4).drop (D' := []) (fun _ h => by cases h))
          have hT9 : T.length ≤ k + 1 := by omega
          obtain ⟨W9, rfl⟩ : ∃ W9, W9 = w4 := ⟨_, rfl⟩
          obtain ⟨T9, rfl⟩ : ∃ T9, T9 = T := ⟨_, rfl⟩
          clear h4 hk4 b0 HD HM
          go_wp2
          have HSUM := Lib.hid (show csum y.st 5 = N from H9.out.aj.fit.csum.trans HX2.out)
          have hfew := H9.out.aj.fit.few
          have HCS := Lib.hid (fun j => csum_le y.st j)
          have HCO := Lib.hid (fun (j : Nat) (hj : j < 5) => by
            have := arCount_aj H9.out.aj (j : Int)
            rw [arCnt_in hj] at this
            exact this)
          go_loopw [17, 18] (fun a s wr => ∃ j : Nat, j ≤ 5 ∧ s = .int .i64 (j : Int) ∧ a = .int .i64 (csum y.st j : Int) ∧ wr = W9) (fun _ s _ => 5 - (intOf s).toNat)
          case atStart => exact ⟨0, Nat.zero_le _, rfl, rfl, rfl⟩
          case round =>
            obtain ⟨j, hj, rfl, rfl, rfl⟩ := hrel
            by_cases hj5 : j < 5
            · have hj6 : (j : Int) < 5 := by omega
              have hj7 : (0 : Int) ≤ (j : Int) := by omega
              have hcc := HCO.out j hj5
              have hci := csum_i (x := y) j
              have hc1 := HCS.out j
              have hc2 := HCS.out (j + 1)
              obtain ⟨a0, ha0⟩ : ∃ a : Nat, csum y.st j = a := ⟨_, rfl⟩
              obtain ⟨a1, ha1⟩ : ∃ a : Nat, csum y.st (j + 1) = a := ⟨_, rfl⟩
              obtain ⟨a2, ha2⟩ : ∃ a : Nat, y.st.count j = a := ⟨_, rfl⟩
              rw [ha2] at hcc hci
              rw [ha0] at hci hc1
              rw [ha1] at hci hc2
              rw [ha0]
              have HA1 := Lib.hid ha1
              have HCI := Lib.hid hci
              have HCC := Lib.hid hcc
              have hb0 : (a0 : Int) ≤ 4096 := by omega
              have hb2 : (a2 : Int) ≤ 4096 := by omega
              have hb3 : (0 : Int) ≤ (a0 : Int) := by omega
              have hb4 : (0 : Int) ≤ (a2 : Int) := by omega
              clear ha0 ha1 ha2 hci hc1 hc2 hcc HCO HCS
              go_wp2_with fail
              refine HCC.out.mono ?_
              rintro e w8 ⟨rfl, rfl⟩
              clear HCC
              go_wp2
              go_roundw
              case rel => exact ⟨j + 1, by omega, by go_num, by rw [HA1.out, HCI.out], by first | exact rfl | trivial⟩
              case measure => simp [intOf]; omega
            · obtain rfl : j = 5 := by omega
              have hsum : ((csum y.st 5 : Nat) : Int) = (N : Int) := by rw [HSUM.out]
              rw [hsum]
              clear hsum HSUM HCS HCO
              go_wp2
              go_roundw
              case rel => exact ⟨k + 1, y, T9, by omega, by go_num, H9.out, HT9.out, hT9, HX2⟩
              case measure => simp [intOf]; omega
    · obtain rfl : k = zs.length := by omega
      have HBF := Lib.hid (Below.next HB1.out hE.aj.below)
      clear hE HT HX
      go_wp2
      go_ret
      exact ⟨rfl, HBF.out⟩

end Go.Proofs.Yteiknnpoaijobaa
