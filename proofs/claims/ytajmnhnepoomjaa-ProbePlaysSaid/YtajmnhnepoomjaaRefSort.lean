/- The document's own Sort and Least, by contract. -/
import Derived.Test.YtajmnhnepoomjaaRankIns
import Derived.Deep.DeepCutAuto
import Derived.Deep.CutBlock
namespace Go.Proofs.Ytajmnhnepoomjaa
open Go.RowKit Go.Shelf Go.Sort

theorem cellsS_one {zs : List SpotT} : ∀ u ∈ cellsS zs, u.oneCell' = true := by
  intro u hu
  unfold cellsS at hu
  obtain ⟨z, _, hz⟩ := List.mem_flatMap.1 hu
  simp [encS] at hz
  rcases hz with rfl | rfl | rfl <;> rfl
theorem RdS.news {w : World} {B : Nat} {ad : Addr} {zs : List SpotT} (h : RdS w B (some ad) zs) : ∀ j u, (cellsS zs)[j]? = some u → w.cell? (ad.add j) = some u := by
  intro j u hj
  have hlt := (List.getElem?_eq_some_iff.1 hj).1
  rw [cellsS_len] at hlt
  have hk : j / 3 < zs.length := by omega
  obtain ⟨b, off, he, _, h0, h1, h2⟩ := h (j / 3) _ (List.getElem?_eq_getElem hk)
  injection he with he
  subst he
  have hx := cellsS_get zs (j / 3) (j % 3) hk (by omega)
  rw [show j / 3 * 3 + j % 3 = j by omega, hj] at hx
  injection hx with hx
  rw [show Addr.add ⟨b, off, none⟩ j = ⟨b, off + j, none⟩ from by simp [Addr.add]]
  rcases (show j % 3 = 0 ∨ j % 3 = 1 ∨ j % 3 = 2 by omega) with e | e | e
  · rw [e] at hx
    rw [show off + j = off + j / 3 * 3 by omega, h0, hx]; rfl
  · rw [e] at hx
    rw [show off + j = off + j / 3 * 3 + 1 by omega, h1, hx]; rfl
  · rw [e] at hx
    rw [show off + j = off + j / 3 * 3 + 2 by omega, h2, hx]; rfl
theorem RdS.none_nil {w : World} {B : Nat} {zs : List SpotT} (h : RdS w B none zs) : zs = [] := by
  cases zs with
  | nil => rfl
  | cons z r =>
    obtain ⟨_, _, he, _⟩ := h 0 z rfl
    cases he

theorem below_new3 (X : World) (o : Obj) : Below X.heap.size X (X.alloc o) := (Below.refl _ X).alloc (Nat.le_refl _) o
/-- A block that is not written keeps its cell behind a struct's store. -/
theorem far3 {X : World} {g o b i : Nat} {v : Value} (hne : ¬ g = b) (u0 u1 u2 : Value) (h : X.cell? ⟨b, i, none⟩ = some v) : (((X.setCell ⟨g, o, none⟩ u0).setCell ⟨g, o + 1, none⟩ u1).setCell ⟨g, o + 2, none⟩ u2).cell? ⟨b, i, none⟩ = some v :=
  (World.cell?_setCell_other _ _ _ _ (by intro e; injection e with e; exact hne e)).trans ((World.cell?_setCell_other _ _ _ _ (by intro e; injection e with e; exact hne e)).trans ((World.cell?_setCell_other _ _ _ _ (by intro e; injection e with e; exact hne e)).trans h))
theorem Below.set3w {w W : World} {B b : Nat} (h : Below B w W) (hb : B ≤ b) (o : Nat) (u0 u1 u2 : Value) : Below B w (((W.setCell ⟨b, o, none⟩ u0).setCell ⟨b, o + 1, none⟩ u1).setCell ⟨b, o + 2, none⟩ u2) :=
  ((h.setCell (p := ⟨b, o, none⟩) hb _).setCell (p := ⟨b, o + 1, none⟩) hb _).setCell (p := ⟨b, o + 2, none⟩) hb _
theorem refSort_done {zs M : List SpotT} (hp : M.Perm zs) (hs : SortedTo M M.length) : sortS zs = M := sortS_eq hp hs.whole

/-- Spots that a call leaves, in memory that is new. -/
def SpotsNew (L : List SpotT) (w : World) (e : Ending) (w' : World) : Prop :=
  ∃ A c, e = .returned (.slice A L.length c) ∧ RdS w' w'.heap.size A L ∧ L.length ≤ c ∧ c ≤ 9223372036854775807 ∧ Below w.heap.size w w' ∧ (L ≠ [] → ∀ k o, A = some ⟨k, o, none⟩ → w.heap.size ≤ k)
theorem SpotsNew.out {L : List SpotT} {w : World} {e : Ending} {w' : World} (h : SpotsNew L w e w') : SpotsOut L w e w' := by
  obtain ⟨A, c, he, hr, hc, hm, hb, _⟩ := h
  exact ⟨A, c, he, hr, hc, hm, hb⟩

set_option maxRecDepth 100000 in
set_option maxHeartbeats 4000000 in
theorem refSort_new (A : Option Addr) (zs : List SpotT) (ca : Nat) (hl : zs.length ≤ 100000) (hcA : A = none → ca = 0) (w : World) (hA : RdS w w.heap.size A zs) :
    Calls Try.prog 110 #[.slice A zs.length ca] w (SpotsNew (sortS zs) w) := by
  have mixed : Try.prog.follows .mixedOrders = true := by kernel_rfl
  obtain ⟨i0, hi0, hz0, hz1, hz2⟩ := info_parts info_spot
  have hb0 : ∀ o, Below w.heap.size w (w.alloc o) := fun o => (Below.refl _ w).alloc (Nat.le_refl _) o
  have h00 : (w.alloc (.cells #[] 62)).ownsRow w.heap.size 62 3 (.slice (some ⟨w.heap.size, 0, none⟩) 0 0) 0 [] := World.ownsRow_made w #[] 0 (Nat.le_refl _) (Nat.zero_le _) rfl
  go_enter Try.func110, Try.ntmps110
  go_upto_region 1 with (fail)
  go_cut [3] (fun v wx => wx.ownsRow w.heap.size 62 3 v zs.length (cellsS zs) ∧ Below w.heap.size w wx)
  case first =>
    cases A with
    | none =>
      have hn := hA.none_nil
      subst hn
      obtain rfl := hcA rfl
      go_wp2_with (at_builtin; refine wpList_append_own_none rfl _ _ 44 rfl w.heap.size 62 i0 3 Try.underlying44 hi0 _ _ _ rfl h00 rfl ?_)
      go_meet
      exact ⟨h00, hb0 _⟩
    | some ad =>
      clear hcA
      go_wp2_with (at_builtin; refine wpList_append_own _ rfl _ _ 44 rfl w.heap.size 62 i0 (.agg #[.int .u64 0, .int .u64 0, .int .i64 0]) 3 24 Try.underlying44 hi0 hz0 hz1 hz2 rfl (by decide) _ _ _ rfl h00 ad zs.length ca (cellsS zs) rfl ?c1 ?c2 cellsS_one ?c3 ?c4 ?c5 ?_)
      case c1 => exact cellsS_len zs
      case c2 => exact ((hA.below (hb0 _)).more (B' := w.heap.size) (Nat.le_refl _)).news
      case c3 => unfold maxLen; omega
      case c4 => omega
      case c5 => simp
      intro v' w1 hown hgrow _
      have hown2 : w1.ownsRow w.heap.size 62 3 v' zs.length (cellsS zs) := by simpa using hown
      have hB : Below w.heap.size w w1 := (hb0 _).grown hgrow (by simp) (by intro k hk; simp [Value.ownBlock] at hk; omega)
      clear hown hgrow
      go_wp2
      go_meet
      exact ⟨hown2, hB⟩
  case rest =>
    obtain ⟨hown, hbel⟩ := hcut
    clear h00 hb0 hcA
    obtain ⟨A1, c1, rfl, hc1, hm1⟩ := ownSlice hown
    by_cases h0 : zs.length = 0
    · obtain rfl := List.eq_nil_of_length_eq_zero h0
      clear hown
      go_wp2
      go_loopw [4] (fun i wr => i = .int .i64 1 ∧ Below w.heap.size w wr) (fun _ _ => 0)
      case atStart => exact ⟨rfl, hbel⟩
      case round =>
        obtain ⟨rfl, hb⟩ := hrel
        go_wp2
        go_ret
        rw [sortS_nil]
        exact ⟨A1, c1, rfl, RdS.nil, Nat.zero_le _, hm1, hb, fun h => absurd rfl h⟩
    · obtain ⟨g, rfl, hg, hgw⟩ := ownPos hown (by omega)
      have HArr := Lib.hid (ArrS.of_own hown)
      clear hown
      go_wp2
      go_loopw [4] (fun i wr => ∃ (j : Nat) (M : List SpotT), j < zs.length ∧ i = .int .i64 (j + 1 : Nat) ∧ Hid (ArrS wr g zs.length M) ∧ Below w.heap.size w wr ∧ Hid (M.Perm zs ∧ SortedTo M (j + 1))) (fun i _ => zs.length + 1 - (intOf i).toNat)
      case atStart => exact ⟨0, zs, by omega, rfl, HArr.out, hbel, List.Perm.refl _, SortedTo.one _⟩
      case round =>
        clear HArr hbel hgw
        obtain ⟨j, M, hj, rfl, HArr, hbel, HP⟩ := hrel
        by_cases hlt : j + 1 < zs.length
        · have hlti : ((j + 1 : Nat) : Int) < (zs.length : Int) := by omega
          have hlti2 : (j : Int) + 1 < (zs.length : Int) := by omega
          go_wp2
          go_loopw [5] (fun k wr => ∃ (kk : Nat) (M : List SpotT), kk ≤ j + 1 ∧ k = .int .i64 kk ∧ Hid (ArrS wr g zs.length M) ∧ Below w.heap.size w wr ∧ Hid (M.Perm zs ∧ Ins M (j + 1) kk)) (fun k _ => (intOf k).toNat)
          case atStart => exact ⟨j + 1, M, Nat.le_refl _, by go_num, HArr.out, hbel, HP.out.1, Ins.start HP.out.2⟩
          case round =>
            clear HArr hbel HP
            obtain ⟨kk, M, hkk, rfl, HArr, hbel, HP⟩ := hrel
            rcases (show kk = 0 ∨ ∃ m, kk = m + 1 by cases kk with | zero => exact .inl rfl | succ m => exact .inr ⟨m, rfl⟩) with rfl | ⟨m, rfl⟩
            · have HS := Lib.hid (HP.out.2.stop (.inl rfl))
              rw [show ((0 : Nat) : Int) = 0 from rfl]
              go_wp2
              go_quiet (fail)
              have HArr2 := Lib.hid (HArr.out.below (below_draws wr nq wr.heap.size) (HArr.out.lt (by omega)))
              have hbel2 := hbel.trans (below_draws wr nq w.heap.size)
              clear HArr hbel
              generalize wr.drewN nq = V at *
              go_wp2
              go_roundw
              case rel => exact ⟨j + 1, M, by omega, by go_num, HArr2.out, hbel2, HP.out.1, HS.out⟩
              case measure => simp [intOf]; omega
            · have hgw : g < wr.heap.size := HArr.out.lt (by omega)
              have hP1 := HP.out.1
              have hml : M.length = zs.length := HArr.out.len
              have g0 := fun n os => cell_grown (n := n) (os := os) (a := ⟨g, (m + 1) * 3, none⟩) hgw (HArr.out.c0 (m + 1) (by omega))
              have g1 := fun n os => cell_grown (n := n) (os := os) (a := ⟨g, (m + 1) * 3 + 1, none⟩) hgw (HArr.out.c1 (m + 1) (by omega))
              have g2 := fun n os => cell_grown (n := n) (os := os) (a := ⟨g, (m + 1) * 3 + 2, none⟩) hgw (HArr.out.c2 (m + 1) (by omega))
              have g3 := fun n os => cell_grown (n := n) (os := os) (a := ⟨g, m * 3, none⟩) hgw (HArr.out.c0 m (by omega))
              have g4 := fun n os => cell_grown (n := n) (os := os) (a := ⟨g, m * 3 + 1, none⟩) hgw (HArr.out.c1 m (by omega))
              have g5 := fun n os => cell_grown (n := n) (os := os) (a := ⟨g, m * 3 + 2, none⟩) hgw (HArr.out.c2 m (by omega))
              have HSt : Hid (ltS (spAt M (m + 1)) (spAt M m) = false → SortedTo M (j + 1 + 1)) := Lib.hid fun e => HP.out.2.stop (.inr e)
              have HSp : Hid (ltS (spAt M (m + 1)) (spAt M m) = true → Ins (swapAt M (m + 1)) (j + 1) m) := Lib.hid fun e => HP.out.2.step hkk (by omega) (by omega) e
              have HPm : Hid ((swapAt M (m + 1)).Perm zs) := Lib.hid ((swapAt_perm M (m + 1) (by omega) (by omega)).trans hP1)
              have HSw : Hid (swapAt M (m + 1) = (M.set (m + 1) (spAt M m)).set m (spAt M (m + 1))) := rfl
              have HP1 := Lib.hid hP1
              clear hP1 HP
              obtain ⟨⟨⟨xa, xb⟩, xc⟩, hx⟩ : ∃ x, spAt M (m + 1) = x := ⟨_, rfl⟩
              obtain ⟨⟨⟨ya, yb⟩, yc⟩, hy⟩ : ∃ y, spAt M m = y := ⟨_, rfl⟩
              rw [hx] at g0 g1 g2 HSt HSp HSw
              rw [hy] at g3 g4 g5 HSt HSp HSw
              simp only at g0 g1 g2 g3 g4 g5
              have HX := Lib.hid hx
              have HY := Lib.hid hy
              clear hx hy
              have k0 : (0 : Int) < ((m + 1 : Nat) : Int) := by omega
              have k0b : (0 : Int) < (m : Int) + 1 := by omega
              have k1 : (0 : Int) ≤ ((m + 1 : Nat) : Int) := by omega
              have k1b : (0 : Int) ≤ (m : Int) + 1 := by omega
              have k2 : ((m + 1 : Nat) : Int) < (zs.length : Int) := by omega
              have k2b : (m : Int) + 1 < (zs.length : Int) := by omega
              have k3 : (m : Int) < (zs.length : Int) := by omega
              have k4 : (0 : Int) ≤ (m : Int) := by omega
              have e1 : IntKind.i64.wrap (((m + 1 : Nat) : Int) - 1) = (m : Int) := by
                rw [IntWalk.i64_in _ (by omega)]
                omega
              have e1b : IntKind.i64.wrap (m : Int) = (m : Int) := IntWalk.i64_in _ (by omega)
              have e2 : ((m : Int)).toNat = m := Int.toNat_natCast m
              have e3 : (((m + 1 : Nat) : Int)).toNat = m + 1 := Int.toNat_natCast _
              have e3b : ((m : Int) + 1).toNat = m + 1 := by omega
              go_wp2
              go_quiet_grown ((go_at_call 75; exact Calls.grown_of (refSpot_any ((_, _), _) ((_, _), _) _)))
              change Exit.then _ _ Exit.normal _ (grow (wr.drewN nq) osq)
              have hbv : Below wr.heap.size wr (grow (wr.drewN nq) osq) := (show Grown wr (grow (wr.drewN nq) osq) from ⟨nq, osq, rfl⟩).below
              have A0 := HArr.out.below hbv hgw
              have hbel2 := Lib.hid (hbel.trans (hbv.mono hbel.size))
              have hgV : g < (grow (wr.drewN nq) osq).heap.size := Nat.lt_of_lt_of_le hgw hbv.size
              clear g0 g1 g2 g3 g4 g5 e1 e1b e2 e3 e3b hbv HArr hbel
              generalize grow (wr.drewN nq) osq = V at *
              have HA := Lib.hid A0
              cases hs : ltS ((xa, xb), xc) ((ya, yb), yc)
              · have HS := Lib.hid (HSt.out hs)
                clear hs A0
                go_wp2
                go_roundw
                case rel => exact ⟨j + 1, M, by omega, by go_num, HA.out, hbel2.out, HP1.out, HS.out⟩
                case measure => simp [intOf]; omega
              · have HS := Lib.hid (HSp.out hs)
                clear hs
                have hne : ¬ g = V.heap.size := by omega
                have hbel3 := Lib.hid (hbel2.out.alloc hbel2.out.size (.cells #[.int .u64 xa, .int .u64 xb, .int .i64 xc] 62))
                have HA1 := Lib.hid (A0.below (below_new3 V (.cells #[.int .u64 xa, .int .u64 xb, .int .i64 xc] 62)) hgV)
                have p0 := A0.c0 (m + 1) (by omega)
                have p1 := A0.c1 (m + 1) (by omega)
                have p2 := A0.c2 (m + 1) (by omega)
                rw [HX.out] at p0 p1 p2
                simp only at p0 p1 p2
                have b0 : (V.alloc (.cells #[.int .u64 xa, .int .u64 xb, .int .i64 xc] 62)).cell? ⟨V.heap.size, 0, none⟩ = some (.int .u64 xa) := by go_cell
                have b1 : (V.alloc (.cells #[.int .u64 xa, .int .u64 xb, .int .i64 xc] 62)).cell? ⟨V.heap.size, 1, none⟩ = some (.int .u64 xb) := by go_cell
                have b2 : (V.alloc (.cells #[.int .u64 xa, .int .u64 xb, .int .i64 xc] 62)).cell? ⟨V.heap.size, 2, none⟩ = some (.int .i64 xc) := by go_cell
                have HB := Lib.hid (And.intro b0 (And.intro b1 b2))
                clear b0 b1 b2 A0
                go_upto_region 9 with (fail)
                generalize V.alloc (.cells #[.int .u64 xa, .int .u64 xb, .int .i64 xc] 62) = X at *
                generalize V.heap.size = b at *
                clear p0 p1 p2
                have q0 := HA1.out.c0 m (by omega)
                have q1 := HA1.out.c1 m (by omega)
                have q2 := HA1.out.c2 m (by omega)
                have r0 := HA1.out.c0 (m + 1) (by omega)
                have r1 := HA1.out.c1 (m + 1) (by omega)
                have r2 := HA1.out.c2 (m + 1) (by omega)
                rw [HX.out] at r0 r1 r2
                rw [HY.out] at q0 q1 q2
                simp only at q0 q1 q2 r0 r1 r2
                have v0 := HA1.out.fr ((m + 1) * 3) (by omega)
                have v1 := HA1.out.fr ((m + 1) * 3 + 1) (by omega)
                have v2 := HA1.out.fr ((m + 1) * 3 + 2) (by omega)
                have HA2 := Lib.hid (HA1.out.set (k := m + 1) (by omega) ((ya, yb), yc))
                have hbel4 := Lib.hid (Below.set3w hbel3.out hg ((m + 1) * 3) (.int .u64 ya) (.int .u64 yb) (.int .i64 yc))
                obtain ⟨b0, b1, b2⟩ := HB.out
                have HB2 := Lib.hid (And.intro (far3 hne (o := (m + 1) * 3) (.int .u64 ya) (.int .u64 yb) (.int .i64 yc) b0) (And.intro (far3 hne (o := (m + 1) * 3) (.int .u64 ya) (.int .u64 yb) (.int .i64 yc) b1) (far3 hne (o := (m + 1) * 3) (.int .u64 ya) (.int .u64 yb) (.int .i64 yc) b2)))
                clear HB b0 b1 b2
                go_upto_region 10 with (fail)
                generalize ((X.setCell ⟨g, (m + 1) * 3, none⟩ (.int .u64 ya)).setCell ⟨g, (m + 1) * 3 + 1, none⟩ (.int .u64 yb)).setCell ⟨g, (m + 1) * 3 + 2, none⟩ (.int .i64 yc) = X1 at *
                clear q0 q1 q2 r0 r1 r2 v0 v1 v2
                obtain ⟨b0, b1, b2⟩ := HB2.out
                have s0 := HA2.out.c0 m (by omega)
                have s1 := HA2.out.c1 m (by omega)
                have s2 := HA2.out.c2 m (by omega)
                have v0 := HA2.out.fr (m * 3) (by omega)
                have v1 := HA2.out.fr (m * 3 + 1) (by omega)
                have v2 := HA2.out.fr (m * 3 + 2) (by omega)
                have HA3 := Lib.hid (HA2.out.set (k := m) (by omega) ((xa, xb), xc))
                have hbel5 := Lib.hid (Below.set3w hbel4.out hg (m * 3) (.int .u64 xa) (.int .u64 xb) (.int .i64 xc))
                clear HB2
                go_wp2
                go_roundw
                case rel => exact ⟨m, by omega, rfl, swapAt M (m + 1), by rw [HSw.out]; exact HA3.out, hbel5.out, HPm.out, HS.out⟩
                case measure => simp [intOf]; omega
        · have hje : j + 1 = zs.length := by omega
          have HE := Lib.hid (show zs.length = (sortS zs).length from (sortS_len zs).symm)
          have hml : M.length = zs.length := HArr.out.len
          have HM := Lib.hid (refSort_done HP.out.1 (by rw [hml, ← hje]; exact HP.out.2))
          have HR := Lib.hid (HArr.out.rd (by omega))
          have hlt2 : ¬ ((j + 1 : Nat) : Int) < (zs.length : Int) := by omega
          have hlt3 : ¬ (j : Int) + 1 < (zs.length : Int) := by omega
          clear hje
          go_wp2
          go_ret
          exact ⟨some ⟨g, 0, none⟩, c1, by rw [← HE.out]; rfl, by rw [HM.out]; exact HR.out, by rw [← HE.out]; exact hc1, hm1, hbel, fun _ k o e => by injection e with e; injection e with e; omega⟩
theorem refSort_any (A : Option Addr) (zs : List SpotT) (ca : Nat) (hl : zs.length ≤ 100000) (hcA : A = none → ca = 0) (w : World) (hA : RdS w w.heap.size A zs) :
    Calls Try.prog 110 #[.slice A zs.length ca] w (SpotsOut (sortS zs) w) := (refSort_new A zs ca hl hcA w hA).mono fun _ _ h => h.out

/-- The first ones, by the document's own sort. -/
theorem refLeast_new (A : Option Addr) (zs : List SpotT) (ca : Nat) (k : Int) (hl : zs.length ≤ 100000) (hcA : A = none → ca = 0) (w : World) (hA : RdS w w.heap.size A zs) :
    Calls Try.prog 122 #[.slice A zs.length ca, .int .i64 k] w (SpotsNew (leastS zs k) w) := by
  go_enter Try.func122, Try.ntmps122
  go_wp2_with fail
  refine (refSort_new A zs ca hl hcA _ hA).mono ?_
  rintro e w1 ⟨A1, c1, rfl, hr, hc, hm, hb, hnw⟩
  have HNW : Hid (leastS zs k ≠ [] → ∀ q o, A1 = some ⟨q, o, none⟩ → w.heap.size ≤ q) := Lib.hid fun h => hnw (fun e => h (by rw [leastS, e, List.take_nil]))
  clear hnw
  rw [sortS_len] at hc ⊢
  have hn := sortS_len zs
  have hf : firstN k zs.length ≤ zs.length := by unfold firstN; omega
  have HL : Hid ((leastS zs k).length = firstN k zs.length) := by rw [Hid, leastS, List.length_take, hn]; omega
  have HT : Hid (RdS w1 w1.heap.size A1 (leastS zs k)) := fun j z hj => by
    rw [leastS, List.getElem?_take] at hj
    split at hj
    · exact hr j z hj
    · cases hj
  have HF : Hid (firstN k zs.length = (max 0 (min k (zs.length : Int))).toNat) := by rw [Hid]; unfold firstN; omega
  have hci : ((zs.length : Nat) : Int) ≤ (c1 : Int) := by omega
  clear hr hn
  go_wp2
  go_ret
  exact ⟨A1, c1, by rw [HL.out, HF.out]; rfl, HT.out, by rw [HL.out]; omega, hm, hb, HNW.out⟩
theorem refLeast_any (A : Option Addr) (zs : List SpotT) (ca : Nat) (k : Int) (hl : zs.length ≤ 100000) (hcA : A = none → ca = 0) (w : World) (hA : RdS w w.heap.size A zs) :
    Calls Try.prog 122 #[.slice A zs.length ca, .int .i64 k] w (SpotsOut (leastS zs k) w) := (refLeast_new A zs ca k hl hcA w hA).mono fun _ _ h => h.out

end Go.Proofs.Ytajmnhnepoomjaa
