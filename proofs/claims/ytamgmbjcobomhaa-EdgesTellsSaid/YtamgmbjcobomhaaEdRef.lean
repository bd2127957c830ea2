/- The document's own lists of neighbours: Most, Has, With, Without, Right, Pairs, by contract. -/
import Derived.Test.YtamgmbjcobomhaaEdRight
import Derived.Test.YtamgmbjcobomhaaEdPairs
import Derived.Deep.DeepCutAuto
import Derived.Deep.CutBlock
namespace Go.Proofs.Ytamgmbjcobomhaa
open Go.RowKit Go.Shelf

theorem refMost_any (links level : Int) (w : World) :
    Calls Try.prog 43 #[.int .i64 links, .int .i64 level] w fun e w' => e = .returned (.int .i64 (mostZ links level)) ∧ w = w' := by
  by_cases h : level = 0
  · have hr : mostZ links level = 2 * max 1 (min links 32) := by unfold mostZ; rw [if_pos h]; omega
    have hb : 1 ≤ max 1 (min links 32) ∧ max 1 (min links 32) ≤ 32 := by omega
    rw [hr]; clear hr
    subst h
    obtain ⟨hb1, hb2⟩ := hb
    go_enter Try.func43, Try.ntmps43
    go_wp2
    go_ret
    exact ⟨ret_int (by first | rfl | (rw [IntWalk.i64_in _ (by omega)])), rfl⟩
  · have hr : mostZ links level = max 1 (min links 32) := by unfold mostZ; rw [if_neg h]; omega
    rw [hr]; clear hr
    go_enter Try.func43, Try.ntmps43
    go_wp2
    go_ret
    exact ⟨rfl, rfl⟩

set_option maxHeartbeats 1000000 in
theorem refHas_any (A : Option Addr) (zs : List Int) (c : Nat) (x : Int) (w : World) {B : Nat} (hA : Rd (Value.int .i64) w B A zs) (hl : zs.length ≤ 9223372036854775807) :
    Calls Try.prog 45 #[.slice A zs.length c, .int .i64 x] w fun e w' => e = .returned (.bool (hasI zs x)) ∧ w = w' := by
  go_enter Try.func45, Try.ntmps45
  go_wp2
  go_loop [9] (fun i => ∃ k : Nat, k ≤ zs.length ∧ i = .int .i64 k ∧ Hid (NoneTo zs x k)) (fun i => zs.length - (intOf i).toNat)
  case atStart => exact ⟨0, Nat.zero_le _, rfl, NoneTo.zero⟩
  case round =>
    obtain ⟨k, hk, rfl, HN⟩ := hrel
    by_cases hlt : k < zs.length
    · obtain ⟨b, off, rfl, hb, h0⟩ := hA k _ (List.getElem?_eq_getElem hlt)
      have HZ := Lib.hid (List.getElem?_eq_getElem hlt)
      have HM := Lib.hid (List.getElem_mem hlt)
      generalize zs[k] = z at *
      have hkl : (k : Int) < (zs.length : Int) := by omega
      have hk0 : (0 : Int) ≤ (k : Int) := by omega
      by_cases hx : x = z
      · subst hx
        go_wp2
        go_ret
        exact ⟨ret_bool ((hasI_iff _ _).2 HM.out).symm, rfl⟩
      · have hx2 : ¬ z = x := fun e => hx e.symm
        go_wp2
        go_round
        case rel => exact ⟨k + 1, by omega, by go_num, HN.out.snoc HZ.out hx⟩
        case measure => simp [intOf]; omega
    · have HE : Hid (hasI zs x = false) := by
        obtain rfl : k = zs.length := by omega
        exact (hasI_not _ _).2 HN.out.all
      go_wp2
      go_ret
      exact ⟨ret_bool HE.out.symm, rfl⟩

set_option maxRecDepth 100000 in
set_option maxHeartbeats 2000000 in
theorem refWith_any (A : Option Addr) (zs : List Int) (c : Nat) (n : Int) (w : World) (hA : Rd (Value.int .i64) w w.heap.size A zs) (hl : zs.length ≤ 100000) (hcA : A = none → c = 0) :
    Calls Try.prog 48 #[.slice A zs.length c, .int .i64 n] w (IntsOut (withI zs n) w) := by
  obtain ⟨i0, hi0, hz0, hz1, hz2⟩ := info_parts info_int
  have hb0 : ∀ o, Below w.heap.size w (w.alloc o) := fun o => (Below.refl _ w).alloc (Nat.le_refl _) o
  have h00 : (w.alloc (.cells #[] 3)).ownsRow w.heap.size 3 1 (.slice (some ⟨w.heap.size, 0, none⟩) 0 0) 0 [] := World.ownsRow_made w #[] 0 (Nat.le_refl _) (Nat.zero_le _) rfl
  go_enter Try.func48, Try.ntmps48
  go_upto_region 1 with (fail)
  go_cut [5] (fun v wx => wx.ownsRow w.heap.size 3 1 v zs.length (zs.map (Value.int .i64)) ∧ Below w.heap.size w wx)
  case first =>
    cases A with
    | none =>
      have hn := hA.none_nil
      subst hn
      obtain rfl := hcA rfl
      go_wp2_with (at_builtin; refine wpList_append_own_none rfl _ _ 60 rfl w.heap.size 3 i0 1 Try.underlying60 hi0 _ _ _ rfl h00 rfl ?_)
      go_meet
      exact ⟨h00, hb0 _⟩
    | some ad =>
      clear hcA
      go_wp2_with (at_builtin; refine wpList_append_own _ rfl _ _ 60 rfl w.heap.size 3 i0 (.int .i64 0) 1 8 Try.underlying60 hi0 hz0 hz1 hz2 rfl (by decide) _ _ _ rfl h00 ad zs.length c (zs.map (Value.int .i64)) rfl ?c1 ?c2 ints_one ?c3 ?c4 ?c5 ?_)
      case c1 => simp
      case c2 => exact ((hA.below (hb0 _)).more (B' := w.heap.size) (Nat.le_refl _)).news
      case c3 => unfold maxLen; omega
      case c4 => omega
      case c5 => simp
      intro v' w1 hown hgrow _
      have hown2 : w1.ownsRow w.heap.size 3 1 v' zs.length (zs.map (Value.int .i64)) := by simpa using hown
      have hB : Below w.heap.size w w1 := (hb0 _).grown hgrow (by simp) (by intro k hk; simp [Value.ownBlock] at hk; omega)
      clear hown hgrow
      go_wp2
      go_meet
      exact ⟨hown2, hB⟩
  case rest =>
    obtain ⟨hown, hbel⟩ := hcut
    clear h00 hb0 hcA
    have hsz : w.heap.size ≤ wc.heap.size := hbel.size
    cases hh : hasI zs n
    · have HH := Lib.hid hh
      have hr : withI zs n = zs ++ [n] := if_neg (by rw [hh]; simp)
      have HR := Lib.hid hr
      clear hr hh
      go_wp2_with fail
      refine (refHas_any A zs c n _ (hA.below hbel) (by omega)).mono ?_
      rw [HH.out]
      rintro e w' ⟨rfl, rfl⟩
      go_wp2_with (at_builtin; refine wpList_append_own _ rfl _ _ 60 rfl w.heap.size 3 i0 (.int .i64 0) 1 8 Try.underlying60 hi0 hz0 hz1 hz2 rfl (by decide) _ _ _ rfl (hown.alloc _) ⟨wc.heap.size, 0, none⟩ 1 1 [.int .i64 n] rfl rfl ?c1 ?c2 ?c3 ?c4 ?c5 ?_)
      case c1 =>
        intro j u hj
        match j, hj with
        | 0, hj => simp at hj; subst hj; simp [Addr.add]
      case c2 => intro u hu; simp at hu; subst hu; rfl
      case c3 => unfold maxLen; omega
      case c4 => omega
      case c5 => simp; omega
      intro v' w2 hown2 hgrow _
      have hB2 := ownBase (hown.alloc _) (hbel.alloc hsz _) (Nat.le_refl _) (by simp; omega) hgrow
      have hown3 : w2.ownsRow w.heap.size 3 1 v' (zs ++ [n]).length ((zs ++ [n]).map (Value.int .i64)) := by
        rw [List.map_append, List.length_append]; exact hown2
      clear hgrow hown hown2
      go_wp2
      go_ret
      rw [HR.out]
      exact IntsOut.of_own hown3 hB2
    · have HH := Lib.hid hh
      have hr : withI zs n = zs := if_pos hh
      have HR := Lib.hid hr
      clear hr hh
      go_wp2_with fail
      refine (refHas_any A zs c n _ (hA.below hbel) (by omega)).mono ?_
      rw [HH.out]
      rintro e w' ⟨rfl, rfl⟩
      go_wp2
      go_ret
      rw [HR.out]
      exact IntsOut.of_own hown hbel

set_option maxRecDepth 100000 in
set_option maxHeartbeats 2000000 in
theorem refWithout_any (A : Option Addr) (zs : List Int) (c : Nat) (n : Int) (w : World) (hA : Rd (Value.int .i64) w w.heap.size A zs) (hl : zs.length ≤ 100000) :
    Calls Try.prog 50 #[.slice A zs.length c, .int .i64 n] w (IntsOut (withoutI zs n) w) := by
  obtain ⟨i0, hi0, hz0, hz1, hz2⟩ := info_parts info_int
  go_enter Try.func50, Try.ntmps50
  go_wp2
  go_loopw [5, 10] (fun v i wr => ∃ (k : Nat) (L : List Int), k ≤ zs.length ∧ i = .int .i64 k ∧ wr.ownsRow w.heap.size 3 1 v L.length (L.map (Value.int .i64)) ∧ Hid (L = withoutI (zs.take k) n) ∧ Below w.heap.size w wr) (fun _ i _ => zs.length - (intOf i).toNat)
  case atStart => exact ⟨0, [], Nat.zero_le _, rfl, World.ownsRow_nil _ _ _ _, rfl, Below.refl _ _⟩
  case round =>
    obtain ⟨k, L, hk, rfl, hown, HL, hbel⟩ := hrel
    have hsz : w.heap.size ≤ wr.heap.size := hbel.size
    by_cases hlt : k < zs.length
    · obtain ⟨b, off, rfl, hb, h0⟩ := hA.below hbel k _ (List.getElem?_eq_getElem hlt)
      have HT := Lib.hid (take_snocI hlt)
      have HLL : L.length ≤ zs.length := by rw [HL.out]; exact Nat.le_trans (withoutI_len _ _) (by simp; omega)
      generalize zs[k] = z at *
      have HS := Lib.hid (withoutI_snoc (zs.take k) n z)
      have hkl : (k : Int) < (zs.length : Int) := by omega
      have hk0 : (0 : Int) ≤ (k : Int) := by omega
      by_cases hx : z = n
      · subst hx
        go_wp2
        go_roundw
        case rel => exact ⟨k + 1, L, by omega, by go_num, hown, by rw [Hid, HT.out, HS.out, if_pos rfl]; exact HL.out, hbel⟩
        case measure => simp [intOf]; omega
      · go_wp2_with (at_builtin; refine wpList_append_own _ rfl _ _ 60 rfl w.heap.size 3 i0 (.int .i64 0) 1 8 Try.underlying60 hi0 hz0 hz1 hz2 rfl (by decide) _ _ _ rfl (hown.alloc _) ⟨wr.heap.size, 0, none⟩ 1 1 [.int .i64 z] rfl rfl ?c1 ?c2 ?c3 ?c4 ?c5 ?_)
        case c1 =>
          intro j u hj
          match j, hj with
          | 0, hj => simp at hj; subst hj; simp [Addr.add]
        case c2 => intro u hu; simp at hu; subst hu; rfl
        case c3 => unfold maxLen; omega
        case c4 => omega
        case c5 => simp; omega
        intro v' w2 hown2 hgrow _
        have hB2 := ownBase (hown.alloc _) (hbel.alloc hsz _) (Nat.le_refl _) (by simp; omega) hgrow
        have hown3 : w2.ownsRow w.heap.size 3 1 v' (L ++ [z]).length ((L ++ [z]).map (Value.int .i64)) := by
          rw [List.map_append, List.length_append]; exact hown2
        clear hgrow hown hown2
        go_wp2
        go_roundw
        case rel => exact ⟨k + 1, L ++ [z], by omega, by go_num, hown3, by rw [Hid, HT.out, HS.out, if_neg hx, ← HL.out], hB2⟩
        case measure => simp [intOf]; omega
    · have HE : Hid (L = withoutI zs n) := by
        rw [Hid, HL.out, List.take_of_length_le (by omega)]
      go_wp2
      go_ret
      rw [← HE.out]
      exact IntsOut.of_own hown hbel

set_option maxRecDepth 100000 in
set_option maxHeartbeats 4000000 in
theorem refPairs_any (A : Option Addr) (zs : List Int) (c : Nat) (w : World) (hA : Rd (Value.int .i64) w w.heap.size A zs) (hl : zs.length ≤ 100000) :
    Calls Try.prog 55 #[.slice A zs.length c] w (PairsOut (pairsI zs) w) := by
  obtain ⟨i0, hi0, hz0, hz1, hz2⟩ := info_parts info_pair
  go_enter Try.func55, Try.ntmps55
  go_wp2
  go_loopw [3, 4] (fun v i wr => ∃ (k : Nat) (L : List (Int × Int)), k ≤ zs.length ∧ i = .int .i64 (k + 1 : Nat) ∧ wr.ownsRow w.heap.size 97 2 v L.length (cellsP L) ∧ Hid (L = (pairsI zs).take k) ∧ Below w.heap.size w wr) (fun _ i _ => zs.length + 1 - (intOf i).toNat)
  case atStart => exact ⟨0, [], Nat.zero_le _, rfl, World.ownsRow_nil _ _ _ _, rfl, Below.refl _ _⟩
  case round =>
    obtain ⟨k, L, hk, rfl, hown, HL, hbel⟩ := hrel
    have hsz : w.heap.size ≤ wr.heap.size := hbel.size
    by_cases hlt : k + 1 < zs.length
    · obtain ⟨b, off, rfl, hb, h0⟩ := hA.below hbel k _ (List.getElem?_eq_getElem (by omega : k < zs.length))
      obtain ⟨b', off', he, hb', h1⟩ := hA.below hbel (k + 1) _ (List.getElem?_eq_getElem hlt)
      injection he with he
      injection he with e1 e2
      subst e1 e2
      have HT := Lib.hid (pairs_snoc zs k hlt)
      have HLL : L.length ≤ zs.length := by rw [HL.out, List.length_take, pairs_len]; omega
      generalize zs[k + 1] = y at *
      generalize zs[k]'(by omega) = x at *
      have hkl : ((k + 1 : Nat) : Int) < (zs.length : Int) := by omega
      have hkl0 : (k : Int) < (zs.length : Int) := by omega
      have hk0 : (0 : Int) ≤ (k : Int) := by omega
      have hk1 : (0 : Int) ≤ ((k + 1 : Nat) : Int) := by omega
      have e1 : IntKind.i64.wrap (((k + 1 : Nat) : Int) - 1) = (k : Int) := by
        rw [IntWalk.i64_in _ (by omega)]
        omega
      have e1b : IntKind.i64.wrap (k : Int) = (k : Int) := IntWalk.i64_in _ (by omega)
      have e2 : ((k : Int)).toNat = k := Int.toNat_natCast k
      have e3 : (((k + 1 : Nat) : Int)).toNat = k + 1 := Int.toNat_natCast _
      have hklb : (k : Int) + 1 < (zs.length : Int) := by omega
      have hk1b : (0 : Int) ≤ (k : Int) + 1 := by omega
      have e3b : ((k : Int) + 1).toNat = k + 1 := by omega
      go_wp2
      have ak : u3.ownBlock ≠ some b := by
        rcases hown.2 with ⟨hv, _⟩ | ⟨g', cap, cur, hv, hg, _⟩
        · rw [hv]; simp [Value.ownBlock]
        · rw [hv]; simp [Value.ownBlock]; omega
      have hm1 : L.length + 1 ≤ maxLen := by unfold maxLen; omega
      have hm2 : (L.length + 1) * 16 ≤ 140737488355328 := by omega
      go_region_held3 (fun W => W.cell? ⟨b, off + k, none⟩ = some (.int .i64 x) ∧ W.cell? ⟨b, off + (k + 1), none⟩ = some (.int .i64 y))
        (first
          | go_keep
          | (go_split_ands
             refine ⟨?_, ?_⟩
             · (rw [hgrow.cell_far _ (by simp; omega) (Ne.symm ak)]; assumption)
             · (rw [hgrow.cell_far _ (by simp; omega) (Ne.symm ak)]; assumption)))
        ((refine step_append_lies _ (by rfl) _ _ _ (by rfl) w.heap.size 97 i0 _ 2 16 Try.underlying70 hi0 hz0 hz1 hz2 rfl (by omega) u3 L.length (cellsP L) (by rfl) ((hown.alloc _).drew)
            ⟨wr.heap.size, 0, none⟩ 1 1 [.int .i64 x, .int .i64 y] (by rfl) (by rfl) (World.news_of_block (cs := #[.int .i64 x, .int .i64 y]) (t := 97) (fr := (0, 0)) (heap_alloc_new wr _)) (by simp [Value.oneCell'])
            (by omega) hm1 hm2 (by simp; omega) (wr.heap.size + 1) (by simp) ?_; intro gg cap w2 hown2 hgrow hat hlt2))
      have hB2 := ownBase (hown.alloc _).drew (below_drew (hbel.alloc hsz _)) (Nat.le_refl _) (by simp; omega) hgrow
      have hown3 : w2.ownsRow w.heap.size 97 2 (.slice (some ⟨gg, 0, none⟩) (L.length + 1) cap) (L ++ [(x, y)]).length (cellsP (L ++ [(x, y)])) := by
        rw [cellsP_snoc, List.length_append]; exact hown2
      clear hgrow hown hown2 e1 e1b e2 e3 e3b
      go_wp2
      go_roundw
      case rel => exact ⟨k + 1, L ++ [(x, y)], by omega, by go_num, hown3, by rw [Hid, HT.out, ← HL.out], hB2⟩
      case measure => simp [intOf]; omega
    · have HE : Hid (L = pairsI zs) := by
        rw [Hid, HL.out, List.take_of_length_le (by rw [pairs_len]; omega)]
      go_wp2
      go_ret
      rw [← HE.out]
      obtain ⟨A2, c2, rfl, _, _⟩ := ownSlice hown
      exact ⟨A2, c2, rfl, RdP.of_own hown, hbel⟩

theorem refHas_k (A : Option Addr) (zs : List Int) (k c : Nat) (x : Int) (w : World) {B : Nat} (hA : Rd (Value.int .i64) w B A zs) (hl : zs.length ≤ 9223372036854775807) (hk : k ≤ zs.length) :
    Calls Try.prog 45 #[.slice A k c, .int .i64 x] w fun e w' => e = .returned (.bool (hasI (zs.take k) x)) ∧ w = w' := by
  have hln : (zs.take k).length = k := by rw [List.length_take]; omega
  have hA2 : Rd (Value.int .i64) w B A (zs.take k) := fun j z hz => by
    rw [List.getElem?_take] at hz
    split at hz
    · exact hA j z hz
    · cases hz
  have h := refHas_any A (zs.take k) c x w hA2 (by omega)
  rw [hln] at h
  exact h

theorem right_end {zs : List Int} {self links level slots : Int} (h : OkTo zs self slots zs.length) : rightB zs self links level slots = decide ((zs.length : Int) ≤ mostZ links level) := by
  by_cases hl : (zs.length : Int) ≤ mostZ links level
  · rw [right_all h hl]; simp [hl]
  · rw [right_long (by omega)]; simp [hl]

set_option maxHeartbeats 4000000 in
theorem refRight_any (A : Option Addr) (zs : List Int) (c : Nat) (self links level slots : Int) (w : World) {B : Nat} (hA : Rd (Value.int .i64) w B A zs) (hl : zs.length ≤ 100000) (hc : zs.length ≤ c) :
    Calls Try.prog 52 #[.slice A zs.length c, .int .i64 self, .int .i64 links, .int .i64 level, .int .i64 slots] w fun e w' => e = .returned (.bool (rightB zs self links level slots)) ∧ w = w' := by
  have HA := Lib.hid (fun k => right_bad (zs := zs) (self := self) (links := links) (level := level) (slots := slots) (k := k))
  have HT := Lib.hid (fun k => right_twice (zs := zs) (self := self) (links := links) (level := level) (slots := slots) (k := k))
  have HE := Lib.hid (fun h => right_end (zs := zs) (self := self) (links := links) (level := level) (slots := slots) h)
  generalize rightB zs self links level slots = R at *
  go_enter Try.func52, Try.ntmps52
  go_wp2
  go_loop [15] (fun i => ∃ k : Nat, k ≤ zs.length ∧ i = .int .i64 k ∧ Hid (OkTo zs self slots k)) (fun i => zs.length - (intOf i).toNat)
  case atStart => exact ⟨0, Nat.zero_le _, rfl, OkTo.zero⟩
  case round =>
    obtain ⟨k, hk, rfl, HO⟩ := hrel
    by_cases hlt : k < zs.length
    · have HB := Lib.hid (HA.out k hlt)
      have HW := Lib.hid (HT.out k hlt)
      have HS := Lib.hid (HO.out.snoc hlt)
      obtain ⟨b, off, rfl, hb, h0⟩ := hA k _ (List.getElem?_eq_getElem hlt)
      clear HA HT HE HO
      generalize zs[k] = z at *
      have hkl : (k : Int) < (zs.length : Int) := by omega
      have hk0 : (0 : Int) ≤ (k : Int) := by omega
      have hkc : (k : Int) ≤ (c : Int) := by omega
      by_cases h3 : z = self
      · obtain rfl : R = false := HB.out (fun g => g.2.2 h3)
        subst h3
        go_wp2
        go_ret
        exact ⟨rfl, rfl⟩
      · by_cases h1 : z < 1
        · obtain rfl : R = false := HB.out (fun g => by have := g.1; omega)
          go_wp2
          go_ret
          exact ⟨rfl, rfl⟩
        · by_cases h2 : slots < z
          · obtain rfl : R = false := HB.out (fun g => by have := g.2.1; omega)
            go_wp2
            go_ret
            exact ⟨rfl, rfl⟩
          · have HG : Hid (goodN self slots z) := ⟨by omega, by omega, h3⟩
            cases hh : hasI (zs.take k) z
            · have HH := Lib.hid hh
              clear hh
              go_wp2_with fail
              refine (refHas_k _ zs k c z _ hA (by omega) hk).mono ?_
              rw [HH.out]
              rintro e w' ⟨rfl, rfl⟩
              go_wp2
              go_round
              case rel => exact ⟨k + 1, by omega, by go_num, HS.out HG.out HH.out⟩
              case measure => simp [intOf]; omega
            · obtain rfl : R = false := HW.out hh
              have HH := Lib.hid hh
              clear hh
              go_wp2_with fail
              refine (refHas_k _ zs k c z _ hA (by omega) hk).mono ?_
              rw [HH.out]
              rintro e w' ⟨rfl, rfl⟩
              go_wp2
              go_ret
              exact ⟨rfl, rfl⟩
    · obtain rfl : k = zs.length := by omega
      have HR := Lib.hid (HE.out HO.out)
      clear HE HO HA HT
      go_wp2_with fail
      refine (refMost_any links level _).mono ?_
      rintro e w' ⟨rfl, rfl⟩
      generalize mostZ links level = m at *
      go_wp2
      go_ret
      exact ⟨ret_bool HR.out.symm, rfl⟩

end Go.Proofs.Ytamgmbjcobomhaa
