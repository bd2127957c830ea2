/- The document's ring (ganglionref23), by contract, fifth part: New, Locks. -/
import Derived.Test.YtkoelbdmpnelhaaRefRing2
namespace Go.Proofs.Ytkoelbdmpnelhaa
open Go.RowKit

theorem rnone_any (w : World) : Calls Try.prog 138 #[] w fun e w' => e = .returned (.int .u64 0) ∧ Below w.heap.size w w' := by
  have HP := Lib.hid (refPutRing_any (-1) (-1) w)
  unfold PairOut at HP
  rw [show ringS (-1) (-1) = (0, 0) from by decide +kernel] at HP
  go_enter Try.func138, Try.ntmps138
  go_wp2_with fail
  refine HP.out.mono ?_
  rintro e w2 ⟨rfl, hb2⟩
  go_wp2
  go_ret
  exact ⟨rfl, hb2⟩
theorem u64_row {W : World} {g : Nat} {L : List Int} {base : Nat} (hb : base ≤ g) (hl : L.length ≤ 1000) (hh : W.heap[g]? = some (.cells (u64s L).toArray 101 (0, 0))) : W.ownsRow base 101 1 (.slice (some ⟨g, 0, none⟩) L.length L.length) L.length (u64s L) := by
  refine ⟨by simp [u64s], .inr ⟨g, L.length, _, rfl, hb, hh, Nat.le_refl _, by unfold maxLen; omega, by simp [u64s], ?_⟩⟩
  rw [List.toList_toArray, List.take_of_length_le (by simp [u64s])]
theorem newW_eq {slots : Int} {m : Nat} (hm : min (max slots 0) 4096 = (m : Int)) : newW slots = 8193 :: List.replicate m 0 := by
  unfold newW putW
  rw [hm, ringS_in (by decide) (by decide), if_pos ⟨by simp, rfl⟩]
  simp [List.replicate_succ]
set_option maxRecDepth 100000 in
set_option maxHeartbeats 2000000 in
theorem rfNew_any (slots : Int) (w : World) : Calls Try.prog 76 #[.int .i64 slots] w (WordsNew (newW slots) w) := by
  obtain ⟨i0, hi0, hz0, hz1, hz2⟩ := info_parts info_u64r
  obtain ⟨m, hm⟩ : ∃ m : Nat, min (max slots 0) 4096 = (m : Int) := ⟨(min (max slots 0) 4096).toNat, by omega⟩
  have HM := Lib.hid hm
  have HN := Lib.hid (newW_eq hm)
  have hm1 : m ≤ 4096 := by omega
  have HP := Lib.hid (refPutRing_any 0 0 w)
  unfold PairOut at HP
  rw [show ringS 0 0 = (8193, 0) from by decide +kernel] at HP
  clear hm
  generalize newW slots = nw at *
  go_enter Try.func76, Try.ntmps76
  go_wp2_with fail
  refine HP.out.mono ?_
  rintro e w1 ⟨rfl, hb1⟩
  have hrow : (w1.alloc (.cells #[.int .u64 8193] 101)).ownsRow w.heap.size 101 1 (.slice (some ⟨w1.heap.size, 0, none⟩) 1 1) 1 (u64s [8193]) := u64_row (L := [8193]) hb1.size (by simp) (heap_alloc_last w1 _)
  have HR := Lib.hid hrow
  have HB := Lib.hid (hb1.alloc hb1.size (.cells #[.int .u64 8193] 101))
  clear hrow hb1 HP
  go_wp2
  go_loopw [5, 6] (fun v i wr => ∃ k : Nat, k ≤ m ∧ i = .int .i64 ((k : Int) + 1) ∧ wr.ownsRow w.heap.size 101 1 v (k + 1) (u64s (8193 :: List.replicate k 0)) ∧ Below w.heap.size w wr) (fun _ i _ => 5000 - (intOf i).toNat)
  case atStart => exact ⟨0, Nat.zero_le _, rfl, HR.out, HB.out⟩
  case round =>
    obtain ⟨k, hk, rfl, hown, hbel⟩ := hrel
    obtain ⟨A1, c1, rfl, _, _⟩ := ownSlice hown
    by_cases hlt : k < m
    · have h1 : (k : Int) + 1 ≤ slots := by have := HM.out; omega
      have h2 : (k : Int) + 1 ≤ 4096 := by omega
      have hk0 : (0 : Int) ≤ (k : Int) := by omega
      have HO := Lib.hid hown
      have HBL := Lib.hid hbel
      clear hown hbel
      go_wp2_with fail
      refine (rnone_any _).mono ?_
      rintro e w2 ⟨rfl, hb2⟩
      have HO2 := Lib.hid (ownsRow_same HO.out (fun g hg => hb2.block g (HO.out.lt g hg).2))
      have HB2 := Lib.hid (Below.next HBL.out hb2)
      have hs2 := HB2.out.size
      clear hb2 HO HBL
      go_wp2_with (at_builtin; refine wpList_append_own _ rfl _ _ 88 rfl w.heap.size 101 i0 (.int .u64 0) 1 8 Try.underlying88 hi0 hz0 hz1 hz2 rfl (by decide) _ _ _ rfl (HO2.out.alloc _) ⟨w2.heap.size, 0, none⟩ 1 1 [.int .u64 0] rfl rfl ?c1 ?c2 ?c3 ?c4 ?c5 ?_)
      case c2 => intro u hu; simp at hu; subst hu; rfl
      case c3 => unfold maxLen; omega
      case c4 => omega
      case c5 => simp; omega
      · intro j u hj
        match j, hj with
        | 0, hj => simp at hj; subst hj; simp [Addr.add]
      intro v' w3 hown3 hgrow _
      have hb3 := ownBase (HO2.out.alloc (.cells #[.int .u64 0] 101)) (HB2.out.alloc hs2 _) (Nat.le_refl _) (by simp; omega) hgrow
      have HO3 : Hid (w3.ownsRow w.heap.size 101 1 v' (k + 1 + 1) (u64s (8193 :: List.replicate (k + 1) 0))) := Lib.hid (by
        have e : u64s (8193 :: List.replicate (k + 1) 0) = u64s (8193 :: List.replicate k 0) ++ [.int .u64 0] := by
          unfold u64s
          rw [List.replicate_succ']
          simp
        rw [e]
        exact hown3)
      clear hown3 hgrow HO2 HB2
      go_wp2
      go_roundw
      case rel => exact ⟨k + 1, by omega, by go_num, HO3.out, hb3⟩
      case measure => simp [intOf]; omega
    · obtain rfl : k = m := by omega
      have HF : Hid (WordsNew nw w (.returned (.slice A1 (k + 1) c1)) wr) := Lib.hid ⟨A1, c1, by rw [HN.out]; simp, by rw [HN.out]; simpa using hown, hbel⟩
      have hw : slots < (k : Int) + 1 ∨ ((k : Int) + 1 ≤ slots ∧ 4096 < (k : Int) + 1) := by have := HM.out; omega
      clear hown hbel
      rcases hw with h1 | ⟨h1, h2⟩
      all_goals
        go_wp2
        go_ret
        exact HF.out

/-- Which slots must stay, of the first k. -/
def lockTo (s n p : Int) (k : Nat) : List Int := ((List.range k).map fun (i : Nat) => (i : Int)).filter fun i => decide (i = 0 ∨ i = s ∨ i = n ∨ i = p)
theorem lockTo_succ (s n p : Int) (k : Nat) : lockTo s n p (k + 1) = lockTo s n p k ++ if (k : Int) = 0 ∨ (k : Int) = s ∨ (k : Int) = n ∨ (k : Int) = p then [(k : Int)] else [] := by
  unfold lockTo
  rw [List.range_succ, List.map_append, List.filter_append]
  by_cases h : (k : Int) = 0 ∨ (k : Int) = s ∨ (k : Int) = n ∨ (k : Int) = p
  · rw [if_pos h]; simp; omega
  · rw [if_neg h]; simp; omega
theorem lockTo_len (s n p : Int) (k : Nat) : (lockTo s n p k).length ≤ k := by
  unfold lockTo
  have := List.length_filter_le (fun i => decide (i = 0 ∨ i = s ∨ i = n ∨ i = p)) ((List.range k).map fun (i : Nat) => (i : Int))
  simpa using this
set_option maxRecDepth 100000 in
set_option maxHeartbeats 4000000 in
theorem rfLocks_c {ws : List Int} {c : Nat} {A : Option Addr} {w : World} (hT : RfAtC ws c A w) (hl : ws.length ≤ 100000) (s : Int) : Calls Try.prog 74 #[.slice A ws.length c, .int .i64 s] w (IntsNew (locksW ws s) w) := by
  obtain ⟨i0, hi0, hz0, hz1, hz2⟩ := info_parts info_int
  have HT := Lib.hid hT
  clear hT
  obtain ⟨n, p, en, ep, hn, hp, HC⟩ := HT.out w (Below.refl _ _) s
  obtain ⟨n0, p0, en0, ep0, hn0, hp0, _⟩ := HT.out w (Below.refl _ _) 0
  have H0 : Hid (∀ W, Below w.heap.size w W → Calls Try.prog 60 #[.slice A ws.length c, .int .i64 0] W fun e w' => e = .returned (.tuple #[.int .i64 n0, .int .i64 p0]) ∧ Below W.heap.size W w') := Lib.hid fun W hW => by
    obtain ⟨a', b', ea, eb, _, _, h⟩ := HT.out W hW 0
    rw [← en0, ← ep0, ea, eb]
    exact h
  have HJ : Hid (locksW ws s = if s ≤ 0 ∨ ¬ s < ws.length then [] else if n < 0 then locksL s n0 (-1) else locksL s n p) := Lib.hid (by
    unfold locksW lockNP
    rw [en, ep, en0]
    by_cases h : n < 0
    · simp only [if_pos h]
    · simp only [if_neg h])
  have HC0 := Lib.hid HC
  clear en ep en0 ep0 HC HT
  generalize locksW ws s = J at *
  generalize ws.length = len at *
  by_cases hbad : s ≤ 0 ∨ ¬ s < (len : Int)
  · have HJ2 : Hid (J = []) := Lib.hid (by rw [HJ.out, if_pos hbad])
    have HN : Hid (∀ w' : World, Below w.heap.size w w' → IntsNew [] w (.returned (.slice none 0 0)) w') := Lib.hid fun w' hb => ⟨none, 0, rfl, fun k z h => by simp at h, hb⟩
    have hw : s < 1 ∨ (1 ≤ s ∧ (len : Int) ≤ s) := by omega
    clear HJ H0 hbad
    rcases hw with h1 | ⟨h1, h2⟩
    all_goals
      go_enter Try.func74, Try.ntmps74
      go_wp2
      go_ret
      rw [HJ2.out]
      exact HN.out _ (Below.refl _ _)
  · have h1 : 1 ≤ s := by omega
    have h2 : s < (len : Int) := by omega
    rw [if_neg hbad] at HJ
    clear hbad
    by_cases hneg : n < 0
    · rw [if_pos hneg] at HJ
      go_enter Try.func74, Try.ntmps74
      go_wp2_with fail
      refine HC0.out.mono ?_
      rintro e w1 ⟨rfl, hb1⟩
      go_wp2_with fail
      refine (H0.out _ hb1).mono ?_
      rintro e w2 ⟨rfl, hb2⟩
      have hB2 := Below.next hb1 hb2
      clear hb1 hb2 hp
      have HB := Lib.hid hB2
      obtain ⟨mm, hmm⟩ : ∃ mm : Nat, max (max n0 (-1)) s = (mm : Int) := ⟨(max (max n0 (-1)) s).toNat, by omega⟩
      have hmm2 : mm ≤ 100000 := by omega
      have HMM := Lib.hid hmm
      have HJ2 : Hid (J = lockTo s n0 (-1) (mm + 1)) := Lib.hid (by rw [HJ.out]; unfold locksL lockTo; rw [hmm]; rfl)
      have hmx0 : 0 ≤ max (max n0 (-1)) s := by omega
      have hmx1 : max (max n0 (-1)) s ≤ 100000 := by omega
      clear hmm hB2
      go_wp2
      go_loopw [7, 8] (fun v i wr => ∃ k : Nat, k ≤ mm + 1 ∧ i = .int .i64 (k : Int) ∧ wr.ownsRow w.heap.size 3 1 v (lockTo s n0 (-1) k).length ((lockTo s n0 (-1) k).map (Value.int .i64)) ∧ Below w.heap.size w wr) (fun _ i _ => mm + 1 - (intOf i).toNat)
      case atStart => exact ⟨0, Nat.zero_le _, rfl, World.ownsRow_nil _ _ _ _, HB.out⟩
      case round =>
        obtain ⟨k, hk, rfl, hown, hbel⟩ := hrel
        obtain ⟨A1, c1, rfl, _, _⟩ := ownSlice hown
        by_cases hlt : k < mm + 1
        · have hkl : (k : Int) < max (max n0 (-1)) s + 1 := by have := HMM.out; omega
          have hk0 : (0 : Int) ≤ (k : Int) := by omega
          have HS := Lib.hid (lockTo_succ s n0 (-1) k)
          have hll := lockTo_len s n0 (-1) k
          have HO := Lib.hid hown
          have HBL := Lib.hid hbel
          have hs2 := hbel.size
          clear hown hbel
          by_cases hin : (k : Int) = 0 ∨ (k : Int) = s ∨ (k : Int) = n0 ∨ (k : Int) = (-1)
          · rw [if_pos hin] at HS
            have hw : ((k : Int) == 0) = true ∨ (((k : Int) == 0) = false ∧ ((k : Int) == s) = true) ∨ (((k : Int) == 0) = false ∧ ((k : Int) == s) = false ∧ ((k : Int) == n0) = true) ∨ (((k : Int) == 0) = false ∧ ((k : Int) == s) = false ∧ ((k : Int) == n0) = false ∧ ((k : Int) == (-1)) = true) := by
              simp only [beq_iff_eq, beq_eq_false_iff_ne]
              omega
            clear hin
            have HAPP : Hid (∀ (v' : Value) (w3 : World), w3.ownsRow w.heap.size 3 1 v' ((lockTo s n0 (-1) k).length + 1) ((lockTo s n0 (-1) k).map (Value.int .i64) ++ [.int .i64 (k : Int)]) → w3.ownsRow w.heap.size 3 1 v' (lockTo s n0 (-1) (k + 1)).length ((lockTo s n0 (-1) (k + 1)).map (Value.int .i64))) := Lib.hid (fun v' w3 h => by rw [HS.out]; simpa using h)
            clear HS
            generalize lockTo s n0 (-1) k = LK at *
            have hcN : ∀ j u, [Value.int .i64 (k : Int)][j]? = some u → (wr.alloc (.cells #[.int .i64 (k : Int)] 3)).cell? (Addr.add ⟨wr.heap.size, 0, none⟩ j) = some u := fun j u hj => by
              match j, hj with
              | 0, hj => simp at hj; subst hj; simp [Addr.add]
            have HCN := Lib.hid hcN
            have hc2 : ∀ u ∈ [Value.int .i64 (k : Int)], u.oneCell' = true := fun u hu => by simp at hu; subst hu; rfl
            have HC2 := Lib.hid hc2
            have HC3 : Hid (LK.length + 1 ≤ maxLen) := Lib.hid (by unfold maxLen; omega)
            have HC4 : Hid ((LK.length + 1) * 8 ≤ 140737488355328) := Lib.hid (by omega)
            have HC5 : Hid (w.heap.size ≤ (wr.alloc (.cells #[.int .i64 (k : Int)] 3)).heap.size) := Lib.hid (by simp; omega)
            clear hcN hc2
            rcases hw with g1 | ⟨g1, g2⟩ | ⟨g1, g2, g3⟩ | ⟨g1, g2, g3, g4⟩
            all_goals
              go_wp2_with (at_builtin; refine wpList_append_own _ rfl _ _ 38 rfl w.heap.size 3 i0 (.int .i64 0) 1 8 Try.underlying38 hi0 hz0 hz1 hz2 rfl (by decide) _ _ _ rfl (HO.out.alloc _) ⟨wr.heap.size, 0, none⟩ 1 1 [.int .i64 (k : Int)] rfl rfl HCN.out HC2.out HC3.out HC4.out HC5.out ?_)
              all_goals
                intro v' w3 hown3 hgrow _
                have hb3 := ownBase (HO.out.alloc (.cells #[.int .i64 (k : Int)] 3)) (HBL.out.alloc hs2 _) (Nat.le_refl _) HC5.out hgrow
                have HO3 := Lib.hid (HAPP.out v' w3 hown3)
                clear hown3 hgrow
                go_wp2
                go_roundw
                case rel => exact ⟨k + 1, by omega, by go_num, HO3.out, hb3⟩
                case measure => simp [intOf]; omega
          · rw [if_neg hin, List.append_nil] at HS
            have g1 : ((k : Int) == 0) = false := by rw [beq_eq_false_iff_ne]; omega
            have g2 : ((k : Int) == s) = false := by rw [beq_eq_false_iff_ne]; omega
            have g3 : ((k : Int) == n0) = false := by rw [beq_eq_false_iff_ne]; omega
            have g4 : ((k : Int) == (-1)) = false := by rw [beq_eq_false_iff_ne]; omega
            clear hin
            go_wp2
            all_goals
              go_roundw
              case rel => exact ⟨k + 1, by omega, by go_num, by rw [HS.out]; exact HO.out, HBL.out⟩
              case measure => simp [intOf]; omega
        · obtain rfl : k = mm + 1 := by omega
          have hkl : ¬ ((mm + 1 : Nat) : Int) < max (max n0 (-1)) s + 1 := by have := HMM.out; omega
          have HF : Hid (IntsNew J w (.returned (.slice A1 (lockTo s n0 (-1) (mm + 1)).length c1)) wr) := Lib.hid (by rw [HJ2.out]; exact IntsNew.of_own hown hbel)
          clear hown hbel
          go_wp2
          all_goals
            go_ret
            exact HF.out
    · rw [if_neg hneg] at HJ
      go_enter Try.func74, Try.ntmps74
      go_wp2_with fail
      refine HC0.out.mono ?_
      rintro e w2 ⟨rfl, hB2⟩
      have HB := Lib.hid hB2
      obtain ⟨mm, hmm⟩ : ∃ mm : Nat, max (max n p) s = (mm : Int) := ⟨(max (max n p) s).toNat, by omega⟩
      have hmm2 : mm ≤ 100000 := by omega
      have HMM := Lib.hid hmm
      have HJ2 : Hid (J = lockTo s n p (mm + 1)) := Lib.hid (by rw [HJ.out]; unfold locksL lockTo; rw [hmm]; rfl)
      have hmx0 : 0 ≤ max (max n p) s := by omega
      have hmx1 : max (max n p) s ≤ 100000 := by omega
      clear hmm hB2
      go_wp2
      go_loopw [7, 8] (fun v i wr => ∃ k : Nat, k ≤ mm + 1 ∧ i = .int .i64 (k : Int) ∧ wr.ownsRow w.heap.size 3 1 v (lockTo s n p k).length ((lockTo s n p k).map (Value.int .i64)) ∧ Below w.heap.size w wr) (fun _ i _ => mm + 1 - (intOf i).toNat)
      case atStart => exact ⟨0, Nat.zero_le _, rfl, World.ownsRow_nil _ _ _ _, HB.out⟩
      case round =>
        obtain ⟨k, hk, rfl, hown, hbel⟩ := hrel
        obtain ⟨A1, c1, rfl, _, _⟩ := ownSlice hown
        by_cases hlt : k < mm + 1
        · have hkl : (k : Int) < max (max n p) s + 1 := by have := HMM.out; omega
          have hk0 : (0 : Int) ≤ (k : Int) := by omega
          have HS := Lib.hid (lockTo_succ s n p k)
          have hll := lockTo_len s n p k
          have HO := Lib.hid hown
          have HBL := Lib.hid hbel
          have hs2 := hbel.size
          clear hown hbel
          by_cases hin : (k : Int) = 0 ∨ (k : Int) = s ∨ (k : Int) = n ∨ (k : Int) = p
          · rw [if_pos hin] at HS
            have hw : ((k : Int) == 0) = true ∨ (((k : Int) == 0) = false ∧ ((k : Int) == s) = true) ∨ (((k : Int) == 0) = false ∧ ((k : Int) == s) = false ∧ ((k : Int) == n) = true) ∨ (((k : Int) == 0) = false ∧ ((k : Int) == s) = false ∧ ((k : Int) == n) = false ∧ ((k : Int) == p) = true) := by
              simp only [beq_iff_eq, beq_eq_false_iff_ne]
              omega
            clear hin
            have HAPP : Hid (∀ (v' : Value) (w3 : World), w3.ownsRow w.heap.size 3 1 v' ((lockTo s n p k).length + 1) ((lockTo s n p k).map (Value.int .i64) ++ [.int .i64 (k : Int)]) → w3.ownsRow w.heap.size 3 1 v' (lockTo s n p (k + 1)).length ((lockTo s n p (k + 1)).map (Value.int .i64))) := Lib.hid (fun v' w3 h => by rw [HS.out]; simpa using h)
            clear HS
            generalize lockTo s n p k = LK at *
            have hcN : ∀ j u, [Value.int .i64 (k : Int)][j]? = some u → (wr.alloc (.cells #[.int .i64 (k : Int)] 3)).cell? (Addr.add ⟨wr.heap.size, 0, none⟩ j) = some u := fun j u hj => by
              match j, hj with
              | 0, hj => simp at hj; subst hj; simp [Addr.add]
            have HCN := Lib.hid hcN
            have hc2 : ∀ u ∈ [Value.int .i64 (k : Int)], u.oneCell' = true := fun u hu => by simp at hu; subst hu; rfl
            have HC2 := Lib.hid hc2
            have HC3 : Hid (LK.length + 1 ≤ maxLen) := Lib.hid (by unfold maxLen; omega)
            have HC4 : Hid ((LK.length + 1) * 8 ≤ 140737488355328) := Lib.hid (by omega)
            have HC5 : Hid (w.heap.size ≤ (wr.alloc (.cells #[.int .i64 (k : Int)] 3)).heap.size) := Lib.hid (by simp; omega)
            clear hcN hc2
            rcases hw with g1 | ⟨g1, g2⟩ | ⟨g1, g2, g3⟩ | ⟨g1, g2, g3, g4⟩
            all_goals
              go_wp2_with (at_builtin; refine wpList_append_own _ rfl _ _ 38 rfl w.heap.size 3 i0 (.int .i64 0) 1 8 Try.underlying38 hi0 hz0 hz1 hz2 rfl (by decide) _ _ _ rfl (HO.out.alloc _) ⟨wr.heap.size, 0, none⟩ 1 1 [.int .i64 (k : Int)] rfl rfl HCN.out HC2.out HC3.out HC4.out HC5.out ?_)
              all_goals
                intro v' w3 hown3 hgrow _
                have hb3 := ownBase (HO.out.alloc (.cells #[.int .i64 (k : Int)] 3)) (HBL.out.alloc hs2 _) (Nat.le_refl _) HC5.out hgrow
                have HO3 := Lib.hid (HAPP.out v' w3 hown3)
                clear hown3 hgrow
                go_wp2
                go_roundw
                case rel => exact ⟨k + 1, by omega, by go_num, HO3.out, hb3⟩
                case measure => simp [intOf]; omega
          · rw [if_neg hin, List.append_nil] at HS
            have g1 : ((k : Int) == 0) = false := by rw [beq_eq_false_iff_ne]; omega
            have g2 : ((k : Int) == s) = false := by rw [beq_eq_false_iff_ne]; omega
            have g3 : ((k : Int) == n) = false := by rw [beq_eq_false_iff_ne]; omega
            have g4 : ((k : Int) == p) = false := by rw [beq_eq_false_iff_ne]; omega
            clear hin
            go_wp2
            all_goals
              go_roundw
              case rel => exact ⟨k + 1, by omega, by go_num, by rw [HS.out]; exact HO.out, HBL.out⟩
              case measure => simp [intOf]; omega
        · obtain rfl : k = mm + 1 := by omega
          have hkl : ¬ ((mm + 1 : Nat) : Int) < max (max n p) s + 1 := by have := HMM.out; omega
          have HF : Hid (IntsNew J w (.returned (.slice A1 (lockTo s n p (mm + 1)).length c1)) wr) := Lib.hid (by rw [HJ2.out]; exact IntsNew.of_own hown hbel)
          clear hown hbel
          go_wp2
          all_goals
            go_ret
            exact HF.out
end Go.Proofs.Ytkoelbdmpnelhaa
