/- As long as a worker is pinned nothing is freed that was retired since; behind its end, and some looks, all is (TopPinned), walked. -/
import Derived.Test.YtgfcpjkihbaapaaTopBegins10
import Derived.Test.YtgfcpjkihbaapaaEpJ
import Derived.Test.YtgfcpjkihbaapaaEpPin
namespace Go.Proofs.Ytgfcpjkihbaapaa
open Go.RowKit

/-- Nothing is loaded, pinned, retired: there were looks alone. -/
def OnlyLooks (k : Nat) (x : EX) : Prop := NoPin x ∧ x.rc.length = k ∧ x.lb = []
theorem OnlyLooks.look {k : Nat} {x : EX} (h : OnlyLooks k x) : OnlyLooks k (lookE x) := ⟨h.1.look, (look_len x).trans h.2.1, (look_lb x).trans h.2.2⟩
/-- Worker q alone is pinned, since the epoch was e0; what is retired was retired since. -/
def OnePin (k q e0 : Nat) (L : List Int) (x : EX) : Prop := PinI x q e0 ∧ x.rc.length = k ∧ (∀ j, j ≠ q → x.rc.getD j 0 = 0) ∧ x.lb.map (·.1) = L ∧ ∀ p ∈ x.lb, p.2 = e0
theorem OnePin.start {n k q : Nat} {x : EX} (h : OnlyLooks k x) (hf : EFit n x) (hq : q < k) : OnePin k q x.e [] (pinE (loadE x q) q) := by
  have hl : (loadE x q).rc.length = k := h.2.1
  refine ⟨PinI.start (hf.load q) (by rw [hl]; exact hq), ?_, fun j hj => ?_, ?_, fun p hp => ?_⟩
  · show (x.rc.set q _).length = k
    rw [List.length_set]; exact h.2.1
  · show (x.rc.set q _).getD j 0 = 0
    rw [getD_set, if_neg (fun e => hj e.1)]
    exact h.1 j
  · show x.lb.map _ = []
    rw [h.2.2]; rfl
  · have : p ∈ x.lb := hp
    rw [h.2.2] at this
    cases this
theorem OnePin.ret {k q e0 : Nat} {L : List Int} {x : EX} (h : OnePin k q e0 L x) (he : x.e = e0) (s : Int) : OnePin k q e0 (if isRet x s = true then L else L ++ [s]) (retX x s) ∧ (retX x s).e = e0 := by
  unfold retX
  cases hr : isRet x s with
  | true => exact ⟨h, he⟩
  | false =>
    refine ⟨⟨h.1.same rfl rfl rfl rfl, h.2.1, h.2.2.1, ?_, fun p hp => ?_⟩, he⟩
    · show (x.lb ++ [(s, x.e)]).map _ = L ++ [s]
      rw [List.map_append, h.2.2.2.1]; rfl
    · rcases List.mem_append.1 hp with hp | hp
      · exact h.2.2.2.2 p hp
      · rw [List.mem_singleton.1 hp]; exact he
theorem OnePin.look {k q e0 : Nat} {L : List Int} {x : EX} (h : OnePin k q e0 L x) : OnePin k q e0 L (lookE x) :=
  ⟨h.1.look, (look_len x).trans h.2.1, fun j hj => by rw [look_rc]; exact h.2.2.1 j hj, by rw [look_lb]; exact h.2.2.2.1, fun p hp => h.2.2.2.2 p (by rw [← look_lb x]; exact hp)⟩
theorem OnePin.free {k q e0 : Nat} {L : List Int} {x : EX} (h : OnePin k q e0 L x) : freeL1 x = [] ∧ freeE x = x := freeE_none fun p hp => h.1.not_ripe (Nat.le_of_eq (h.2.2.2.2 p hp).symm)
/-- .. and behind the pin. -/
def Behind (k e0 : Nat) (L : List Int) (x0 : EX) (j : Nat) (x : EX) : Prop := NoPin x ∧ x.rc.length = k ∧ x.lb.map (·.1) = L ∧ (∀ p ∈ x.lb, p.2 = e0) ∧ farE x = farE x0 + j ∧ x0.rc.length = k ∧ e0 ≤ x0.e
theorem Behind.start {k q e0 : Nat} {L : List Int} {x : EX} (h : OnePin k q e0 L x) : Behind k e0 L (unpinE x q) 0 (unpinE x q) := by
  have hl : (unpinE x q).rc.length = k := by show (x.rc.set q 0).length = k; rw [List.length_set]; exact h.2.1
  refine ⟨fun j => ?_, hl, h.2.2.2.1, h.2.2.2.2, rfl, hl, h.1.lo⟩
  show (x.rc.set q 0).getD j 0 = 0
  rw [getD_set]
  split
  · rfl
  · rename_i hn
    by_cases e : j = q
    · subst e
      exact absurd ⟨rfl, h.1.lt⟩ hn
    · exact h.2.2.1 j e
theorem Behind.look {k e0 j : Nat} {L : List Int} {x0 x : EX} (h : Behind k e0 L x0 j x) (hl : x.lk < x.rc.length) : Behind k e0 L x0 (j + 1) (lookE x) := by
  obtain ⟨h1, h2, h3, h4, h5, h6, h7⟩ := h
  exact ⟨h1.look, (look_len x).trans h2, by rw [look_lb]; exact h3, fun p hp => h4 p (by rw [← look_lb x]; exact hp), by rw [h1.far hl, h5]; omega, h6, h7⟩
theorem Behind.free {n k e0 : Nat} {L : List Int} {x0 x : EX} (h : Behind k e0 L x0 (4 * k) x) (hf : EFit n x) : (freeL1 x).map (·.1) = L := by
  obtain ⟨h1, h2, h3, h4, h5, h6, h7⟩ := h
  have := far_four (x := x0) (y := x) (by rw [h2, h6]) hf.lk (by rw [h5, h6])
  rw [(freeE_all (x := x) fun p hp => by
    have := h4 p hp
    unfold ripe
    rw [decide_eq_true_iff]
    omega).1]
  exact h3

set_option maxRecDepth 100000 in
set_option maxHeartbeats 8000000 in
theorem TopPinned_walk (workers who : Int) (A : Option Addr) (zs : List Int) (c : Nat) (looks : Int) (w : World) (hA : Rd (Value.int .i64) w w.heap.size A zs) (hIz : ∀ z ∈ zs, IsI z) (hl : zs.length ≤ 9223372036854775807) (hlk : 0 ≤ looks ∧ looks ≤ 255) :
    Calls Try.prog 9 #[.int .i64 workers, .int .i64 who, .slice A zs.length c, .int .u8 looks] w fun e w' => e = .returned (.bool true) ∧ Below w.heap.size w w' := by
  by_cases hbad : workers < 1 ∨ 64 < workers
  · clear hA hIz
    go_enter Try.func9, Try.ntmps9
    go_wp2_with fail
    refine (begins10_any _).mono ?_
    rintro e w1 ⟨rfl, hb1⟩
    go_wp2_with fail
    refine (ENew_not workers hbad _).mono ?_
    rintro e w2 ⟨rfl, rfl⟩
    go_wp2
    go_ret
    exact ⟨rfl, hb1⟩
  obtain ⟨N, rfl⟩ : ∃ N : Nat, workers = (N : Int) := ⟨workers.toNat, by omega⟩
  have hN1 : 1 ≤ N := by omega
  have hN2 : N ≤ 64 := by omega
  by_cases hcase : who < 0 ∨ (N : Int) ≤ who ∨ 40 < zs.length
  · have hc1 : who < 0 ∨ (¬ who < 0 ∧ (N : Int) ≤ who) ∨ (¬ who < 0 ∧ ¬ (N : Int) ≤ who ∧ (40 : Int) < (zs.length : Int)) := by omega
    clear hA hIz hcase hbad
    rcases hc1 with h1 | ⟨h1, h2⟩ | ⟨h1, h2, h3⟩
    all_goals
      go_enter Try.func9, Try.ntmps9
      go_wp2_with fail
      refine (begins10_any _).mono ?_
      rintro e w1 ⟨rfl, hb1⟩
      have HB1 := Lib.hid hb1
      clear hb1
      go_wp2_with fail
      refine (ENew_e1 N hN1 hN2 _).mono ?_
      rintro e w2 ⟨B, rfl, h2⟩
      have HB2 := Lib.hid (Below.next HB1.out h2.below)
      clear h2
      go_wp2
      go_ret
      exact ⟨rfl, HB2.out⟩
  obtain ⟨q, rfl⟩ : ∃ q : Nat, who = (q : Int) := ⟨who.toNat, by omega⟩
  have hq : q < N := by omega
  have hn1 : ¬ (q : Int) < 0 := by omega
  have hn2 : ¬ (N : Int) ≤ (q : Int) := by omega
  have hn3 : ¬ (40 : Int) < (zs.length : Int) := by omega
  have hz40 : zs.length ≤ 40 := by omega
  have hN64 : (N : Int) ≤ 64 := by omega
  have hd1 : decide ((q : Int) < 0) = false := decide_eq_false hn1
  have hd2 : decide (N ≤ q) = false := decide_eq_false (by omega)
  have hd3 : decide ((40 : Int) < (zs.length : Int)) = false := decide_eq_false hn3
  have hd4 : decide ((N : Int) ≤ (q : Int)) = false := decide_eq_false hn2
  obtain ⟨lo, hlo, hlo2⟩ : ∃ lo : Nat, looks % 16 = (lo : Int) ∧ lo < 16 := ⟨(looks % 16).toNat, by omega, by omega⟩
  have hlo4 : looks.tmod 16 = (lo : Int) := by rw [Int.tmod_eq_emod_of_nonneg hlk.1, hlo]
  clear hcase hbad
  go_enter Try.func9, Try.ntmps9
  go_wp2_with fail
  refine (begins10_any _).mono ?_
  rintro e w1 ⟨rfl, hb1⟩
  have HB1 := Lib.hid hb1
  have HA := Lib.hid (hA.below hb1)
  have HIz := Lib.hid hIz
  clear hb1 hA hIz
  go_wp2_with fail
  refine (ENew_e1 N hN1 hN2 _).mono ?_
  rintro e w2 ⟨B, rfl, h2⟩
  have H2 := Lib.hid (EJ.of_e1 h2)
  clear h2
  go_upto_region 7 with (fail)
  go_loopw [51] (fun i wr => ∃ (j : Nat) (x : EX), j ≤ lo ∧ i = .int .u8 j ∧ EJ w1 j (.pointer (some ⟨B, 0, none⟩)) x (fun _ => False) wr ∧ Hid (OnlyLooks N x)) (fun i _ => lo - (intOf i).toNat)
  case atStart => exact ⟨0, newE N, Nat.zero_le _, rfl, H2.out, NoPin.new N, by simp [newE], rfl⟩
  case round =>
    obtain ⟨j, x, hj, rfl, hE, HO⟩ := hrel
    by_cases hlt : j < lo
    · have hj1 : (j : Int) < (lo : Int) := by omega
      have hj0 : (0 : Int) ≤ (j : Int) := by omega
      have hlo3 : (lo : Int) < 16 := by omega
      have HL := Lib.hid (Look_ej hE (by omega))
      clear hE
      go_wp2_with fail
      refine HL.out.mono ?_
      rintro e w3 ⟨rfl, h3, _⟩
      have HO2 := Lib.hid HO.out.look
      clear HL
      go_wp2
      go_roundw
      case rel => exact ⟨j + 1, lookE x, by omega, by go_num, h3, HO2.out⟩
      case measure => simp [intOf]; omega
    · obtain rfl : j = lo := by omega
      have hlen := HO.out.2.1
      have hq2 : q < x.rc.length := by omega
      have hhas : hasE x (q : Int) = true := decide_eq_true ⟨by omega, by omega⟩
      have hld : loadX x (q : Int) = loadE x q := by unfold loadX; rw [if_pos hhas, Int.toNat_natCast]
      have hpin : pinB (loadE x q) (q : Int) = true := by
        unfold pinB
        rw [show hasE (loadE x q) (q : Int) = true from hhas, Int.toNat_natCast, show (loadE x q).rc.getD q 0 = 0 from HO.out.1 q]
        rfl
      have hpx : pinX (loadE x q) (q : Int) = pinE (loadE x q) q := by unfold pinX; rw [if_pos hpin, Int.toNat_natCast]
      have HP := Lib.hid (OnePin.start HO.out hE.fit hq)
      have HL := Lib.hid (ELoad_ej hE (q : Int))
      rw [hld] at HL
      have HPX := Lib.hid (fun W (h : EJ w1 j (.pointer (some ⟨B, 0, none⟩)) (loadE x q) (fun _ => False) W) => Pin_ej h (by omega) (q : Int))
      rw [hpin, hpx] at HPX
      have HXE := Lib.hid (show (pinE (loadE x q) q).e = x.e from rfl)
      generalize pinE (loadE x q) q = xp at *
      generalize x.e = e0 at *
      clear hE hld hpin hpx hhas hq2 HO
      go_wp2_with fail
      refine HL.out.mono ?_
      rintro e w3 ⟨rfl, h3, _⟩
      have HPP := Lib.hid (HPX.out w3 h3)
      clear h3 HL HPX
      go_wp2_with fail
      refine HPP.out.mono ?_
      rintro e w4 ⟨rfl, h4, _⟩
      have H4 := Lib.hid h4
      clear h4 HPP
      go_upto_region 15 with (fail)
      obtain ⟨i0, hi0, hz0, hz1, hz2⟩ := info_parts info_int
      go_loopw [11, 65] (fun s i wr => ∃ (k : Nat) (L : List Int) (x : EX), k ≤ zs.length ∧ i = .int .i64 k ∧ L.length ≤ k ∧ EJ w1 (j + k) (.pointer (some ⟨B, 0, none⟩)) x (fun b => s.ownBlock = some b) wr ∧ wr.ownsRow w1.heap.size 3 1 s L.length (L.map (Value.int .i64)) ∧ Hid (OnePin N q e0 L x ∧ x.e = e0))
        (fun _ i _ => zs.length - (intOf i).toNat)
      case atStart => exact ⟨0, [], xp, Nat.zero_le _, rfl, Nat.le_refl _, H4.out.sub (fun b e => by cases e), World.ownsRow_nil _ _ _ _, HP.out, HXE.out⟩
      case round =>
        obtain ⟨k, L, y, hk, rfl, hLk, hE, hown, HS⟩ := hrel
        by_cases hlt2 : k < zs.length
        · obtain ⟨z, hz⟩ : ∃ z, zs[k]? = some z := ⟨_, List.getElem?_eq_getElem hlt2⟩
          obtain ⟨b, off, rfl, hb, hcz0⟩ := HA.out k z hz
          have hcz : wr.cell? ⟨b, off + k, none⟩ = some (.int .i64 z) := (hE.below.cell (p := ⟨b, off + k, none⟩) (by have := HB1.out.size; show b < w1.heap.size; omega)).trans hcz0
          have hIz := HIz.out z (List.mem_of_getElem? hz)
          have hk0 : (0 : Int) ≤ (k : Int) := by omega
          have hk1 : (k : Int) < (zs.length : Int) := by omega
          have HN := Lib.hid (HS.out.1.ret HS.out.2 z)
          have HR := Lib.hid (Retire_ej hE (by omega) z hIz)
          have hsl := ownSlice hown
          have HOW := Lib.hid hown
          clear hE hown hz hIz hcz0 HS
          cases hr : isRet y z with
          | true =>
            rw [hr] at HR HN
            generalize retX y z = y2 at *
            clear hr
            go_wp2_with fail
            refine HR.out.mono ?_
            rintro e w5 ⟨rfl, h5, hkp⟩
            have hown2 := hkp.row HOW.out (fun g hg => hg)
            clear hkp HR HOW
            go_wp2
            go_roundw
            case rel => exact ⟨k + 1, L, y2, by omega, by go_num, by omega, h5, hown2, HN.out⟩
            case measure => simp [intOf]; omega
          | false =>
            rw [hr] at HR HN
            generalize retX y z = y2 at *
            obtain ⟨A5, c5, rfl, hlc, hcm⟩ := hsl
            clear hr
            go_wp2_with fail
            refine HR.out.mono ?_
            rintro e w5 ⟨rfl, h5, hkp⟩
            have hown2 := hkp.row HOW.out (fun g hg => hg)
            clear hkp HR HOW
            have HNW : Hid (∀ j u, [Value.int .i64 z][j]? = some u → (w5.alloc (.cells #[.int .i64 z] 3)).cell? (Addr.add ⟨w5.heap.size, 0, none⟩ j) = some u) := Lib.hid fun j u hj => by
              match j, hj with
              | 0, hj => simp at hj; subst hj; simp [Addr.add]
            have HON : Hid (∀ u ∈ [Value.int .i64 z], u.oneCell' = true) := Lib.hid fun u hu => by simp at hu; subst hu; rfl
            have hs1 := h5.below.size
            have H5 := Lib.hid h5
            clear h5
            go_wp2_with (at_builtin; refine wpList_append_lies _ rfl _ _ 38 rfl w1.heap.size 3 i0 (.int .i64 0) 1 8 Try.underlying38 hi0 hz0 hz1 hz2 rfl (by decide) _ _ _ rfl (hown2.alloc _) ⟨w5.heap.size, 0, none⟩ 1 1 [.int .i64 z] rfl rfl HNW.out HON.out (by decide) (by unfold maxLen; omega) (by omega) (by simp; omega) (w5.heap.size + 1) (by simp) ?_; intro gg cap w6 hown6 hgrow hat hlt6)
            have hE6 : EJ w1 (j + (k + 1)) (.pointer (some ⟨B, 0, none⟩)) y2 (fun b => (Value.slice (some ⟨gg, 0, none⟩) (L.length + 1) cap).ownBlock = some b) w6 := by
              have hsz := hgrow.size
              rw [World.size_alloc] at hsz
              refine H5.out.write (M := fun b => (Value.slice A5 L.length c5).ownBlock = some b) ⟨hgrow.os, hgrow.tape, hgrow.output, by omega, fun b hb hn => (hgrow.block b (by rw [World.size_alloc]; omega) (fun e => hn e.symm)).trans (Below.heap_alloc w5 _ b hb)⟩ (fun _ e => e) (fun b e => ?_)
              have hgb : gg = b := by injection e
              rcases hat with e2 | e2
              · exact .inl (by rw [← hgb]; exact e2)
              · exact .inr ⟨by omega, by omega⟩
            have hown7 : w6.ownsRow w1.heap.size 3 1 (.slice (some ⟨gg, 0, none⟩) (L.length + 1) cap) (L ++ [z]).length ((L ++ [z]).map (Value.int .i64)) := by
              rw [List.map_append, List.length_append]
              exact hown6
            clear hown6 hgrow hat hlt6 HNW HON H5 hown2
            have hLL : (L ++ [z]).length ≤ k + 1 := by rw [List.length_append, List.length_singleton]; omega
            go_wp2
            go_roundw
            case rel => exact ⟨k + 1, L ++ [z], y2, by omega, by go_num, hLL, hE6, hown7, HN.out⟩
            case measure => simp [intOf]; omega
        · obtain rfl : k = zs.length := by omega
          obtain ⟨A5, c5, rfl, hlc, hcm⟩ := ownSlice hown
          obtain ⟨LL, hLL⟩ : ∃ LL, L.length = LL := ⟨_, rfl⟩
          rw [hLL] at hown hLk hlc hE
          rw [hLL]
          have HOW := Lib.hid hown
          have HLL := Lib.hid hLL
          have HE := Lib.hid hE
          have HS1 := Lib.hid HS.out.1
          have hL40 : LL ≤ 40 := by omega
          clear hown hE hLL HS hlc hcm
          go_wp2
          go_loopw [79] (fun i wr => ∃ (t : Nat) (y : EX), t ≤ 3 * N ∧ i = .int .i64 t ∧ EJ w1 (j + zs.length + t) (.pointer (some ⟨B, 0, none⟩)) y (fun b => (Value.slice A5 LL c5).ownBlock = some b) wr ∧ wr.ownsRow w1.heap.size 3 1 (.slice A5 LL c5) LL (L.map (Value.int .i64)) ∧ Hid (OnePin N q e0 L y)) (fun i _ => 3 * N - (intOf i).toNat)
          case atStart => exact ⟨0, y, Nat.zero_le _, rfl, HE.out, HOW.out, HS1.out⟩
          case round =>
            obtain ⟨t, x3, ht, rfl, hE, hown, HS⟩ := hrel
            by_cases hlt3 : t < 3 * N
            · have ht1 : (t : Int) < 3 * (N : Int) := by omega
              have ht0 : (0 : Int) ≤ (t : Int) := by omega
              have HLK := Lib.hid (Look_ej hE (by omega))
              have HS2 := Lib.hid HS.out.look
              have hfr := HS.out.look.free
              have HFR := Lib.hid (fun W (h : EJ w1 (j + zs.length + t + 1) (.pointer (some ⟨B, 0, none⟩)) (lookE x3) (fun b => (Value.slice A5 LL c5).ownBlock = some b) W) => Free_ej h (by omega) (L := []) (l := 0) (by rw [hfr.1]; rfl) rfl)
              rw [hfr.2] at HFR
              have HO := Lib.hid hown
              clear hE HS hfr hown
              go_wp2_with fail
              refine HLK.out.mono ?_
              rintro e w5 ⟨rfl, h5, hk5⟩
              have HF2 := Lib.hid (HFR.out w5 h5)
              have HO5 := Lib.hid (hk5.row HO.out (fun g hg => hg))
              clear h5 hk5 HLK HFR HO
              go_wp2_with fail
              refine HF2.out.mono ?_
              rintro e w6 ⟨A6, c6, rfl, _, h6, hk6⟩
              have hown6 := hk6.row HO5.out (fun g hg => hg)
              clear hk6 HF2 HO5
              go_wp2
              go_roundw
              case rel => exact ⟨t + 1, lookE x3, by omega, by go_num, h6, hown6, HS2.out⟩
              case measure => simp [intOf]; omega
            · obtain rfl : t = 3 * N := by omega
              have HU := Lib.hid (Unpin_ej hE (q : Int))
              have hux : unpinX x3 (q : Int) = unpinE x3 q := by
                have hlen3 := HS.out.2.1
                have hub : unpinB x3 (q : Int) = true := by
                  unfold unpinB
                  rw [show hasE x3 (q : Int) = true from decide_eq_true ⟨by omega, by omega⟩, Int.toNat_natCast, Bool.true_and, beq_eq_false_iff_ne.2 HS.out.1.rec0]
                  rfl
                unfold unpinX
                rw [if_pos hub, Int.toNat_natCast]
              rw [hux] at HU
              have HBS := Lib.hid (Behind.start HS.out)
              generalize unpinE x3 q = x4 at *
              have HO := Lib.hid hown
              clear hE hown hux HS
              go_wp2_with fail
              refine HU.out.mono ?_
              rintro e w5 ⟨rfl, h5, hk5⟩
              have HO5 := Lib.hid (hk5.row HO.out (fun g hg => hg))
              have H5 := Lib.hid h5
              clear h5 hk5 HU HO
              go_wp2
              go_loopw [93] (fun i wr => ∃ (t : Nat) (y : EX), t ≤ 4 * N ∧ i = .int .i64 t ∧ EJ w1 (j + zs.length + 3 * N + t) (.pointer (some ⟨B, 0, none⟩)) y (fun b => (Value.slice A5 LL c5).ownBlock = some b) wr ∧ wr.ownsRow w1.heap.size 3 1 (.slice A5 LL c5) LL (L.map (Value.int .i64)) ∧ Hid (Behind N e0 L x4 t y)) (fun i _ => 4 * N - (intOf i).toNat)
              case atStart => exact ⟨0, x4, Nat.zero_le _, rfl, H5.out, HO5.out, HBS.out⟩
              case round =>
                obtain ⟨t, x5, ht, rfl, hE, hown, HS⟩ := hrel
                by_cases hlt4 : t < 4 * N
                · have ht1 : (t : Int) < 4 * (N : Int) := by omega
                  have ht0 : (0 : Int) ≤ (t : Int) := by omega
                  have HLK := Lib.hid (Look_ej hE (by omega))
                  have HS2 := Lib.hid (HS.out.look hE.fit.lk)
                  have HO := Lib.hid hown
                  clear hE HS hown
                  go_wp2_with fail
                  refine HLK.out.mono ?_
                  rintro e w6 ⟨rfl, h6, hk6⟩
                  have hown6 := hk6.row HO.out (fun g hg => hg)
                  clear hk6 HLK HO
                  go_wp2
                  go_roundw
                  case rel => exact ⟨t + 1, lookE x5, by omega, by go_num, h6, hown6, HS2.out⟩
                  case measure => simp [intOf]; omega
                · obtain rfl : t = 4 * N := by omega
                  have HF := Lib.hid (Free_ej hE (by omega) (L := L) (l := LL) (HS.out.free hE.fit) HLL.out)
                  have HO := Lib.hid hown
                  clear hE HS hown
                  go_wp2_with fail
                  refine HF.out.mono ?_
                  rintro e w6 ⟨A6, c6, rfl, hr6, h6, hk6⟩
                  have hown6 := hk6.row HO.out (fun g hg => hg)
                  have hr5 := Rd.of_own hown6
                  have HR6 := Lib.hid hr6
                  have HR5 := Lib.hid hr5
                  have HBF := Lib.hid (Below.next HB1.out h6.below)
                  clear hk6 HF HO hr6 hr5 hown6 h6
                  go_wp2
                  go_loopw [107] (fun i wr => ∃ t : Nat, t ≤ LL ∧ i = .int .i64 t ∧ Drawn w6 wr) (fun i _ => LL - (intOf i).toNat)
                  case atStart => exact ⟨0, Nat.zero_le _, rfl, Drawn.refl⟩
                  case round =>
                    obtain ⟨t, ht, rfl, hdr⟩ := hrel
                    by_cases hlt5 : t < LL
                    · obtain ⟨z, hz⟩ : ∃ z, L[t]? = some z := ⟨_, List.getElem?_eq_getElem (by rw [HLL.out]; exact hlt5)⟩
                      obtain ⟨b5, o5, rfl, _, hc5⟩ := HR5.out t z hz
                      obtain ⟨b6, o6, rfl, _, hc6⟩ := HR6.out t z hz
                      have hd5 := (hdr.cell _).trans hc5
                      have hd6 := (hdr.cell _).trans hc6
                      have ht1 : (t : Int) < (LL : Int) := by omega
                      have ht0 : (0 : Int) ≤ (t : Int) := by omega
                      clear hc5 hc6 hz
                      go_wp2
                      go_quiet (fail)
                      go_wp2
                      go_roundw
                      case rel => exact ⟨t + 1, by omega, by go_num, hdr.step _⟩
                      case measure => simp [intOf]; omega
                    · have ht1 : ¬ (t : Int) < (LL : Int) := by omega
                      have hfin := HBF.out.trans (hdr.below w.heap.size)
                      go_wp2
                      go_ret
                      exact ⟨rfl, hfin⟩

end Go.Proofs.Ytgfcpjkihbaapaa
