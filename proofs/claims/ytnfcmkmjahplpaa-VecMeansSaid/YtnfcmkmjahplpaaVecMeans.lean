/- VecMeans, the walk of the law: program and answer are held side by side. -/
import Derived.Test.YtnfcmkmjahplpaaRefMean
import Derived.Test.YtnfcmkmjahplpaaVecLives
namespace Go.Proofs.Ytnfcmkmjahplpaa
open Go.RowKit Go.Shelf

theorem mean_form (rows : List (List Int)) : ∃ (xs : List Int) (E : Int), ∀ (w : World) (e : Ending) (w' : World), MeanOut rows w e w' → Below w.heap.size w w' ∧ ∃ M c, e = .returned (.tuple #[.slice M xs.length c, .int .i64 E]) ∧ Vec w' M xs := by
  by_cases hA : Alike rows
  · refine ⟨meanL (rows.headD []).length rows, 0, fun w e w' h => ⟨h.1, ?_⟩⟩
    rcases h.2 with ⟨hn, _⟩ | ⟨_, M, c, he, hv⟩
    · exact absurd hA hn
    · exact ⟨M, c, by rw [meanL_length]; exact he, hv⟩
  · refine ⟨[], 7, fun w e w' h => ⟨h.1, ?_⟩⟩
    rcases h.2 with ⟨_, he⟩ | ⟨hn, _⟩
    · exact ⟨none, 0, he, Vec.nil⟩
    · exact absurd hn hA

theorem Rd_below {α : Type} {f : α → Value} {w w' : World} {A : Option Addr} {zs : List α} (h : Rd f w w.heap.size A zs) (hb : Below w.heap.size w w') : Rd f w' w'.heap.size A zs := (h.below hb).more hb.size

set_option maxRecDepth 100000 in
set_option maxHeartbeats 1000000 in
theorem VecMeans_walk (A : Option Addr) (hs : List Hdr) (c : Nat) (w : World) (hR : Rd hdrV w w.heap.size A hs) (hl : hs.length ≤ 9223372036854775807) (hv : ∀ h ∈ hs, Vec w h.1 h.2.1) :
    Calls Try.prog 3 #[.slice A hs.length c] w fun e w' => e = .returned (.bool true) ∧ Below w.heap.size w w' := by
  have HV := Lib.hid hv
  have HR := Lib.hid hR
  clear hv hR
  by_cases h100 : 100 < hs.length
  · have h100' : (100 : Int) < (hs.length : Int) := by omega
    go_enter Try.func3, Try.ntmps3
    go_wp2_with fail
    refine (vec_lives_any _).mono ?_
    rintro e w1 ⟨rfl, hb⟩
    go_wp2
    go_ret
    exact ⟨rfl, hb⟩
  · have h100' : (hs.length : Int) ≤ 100 := by omega
    obtain ⟨xs, E, HF⟩ := mean_form (rowsOf hs)
    have HFF := Lib.hid HF
    clear HF
    go_enter Try.func3, Try.ntmps3
    go_wp2
    go_loop [15] (fun i => ∃ k : Nat, k ≤ hs.length ∧ i = .int .i64 k ∧ Hid (0 < k → (hdrAt hs 0).2.1.length ≤ 1000)) (fun i => hs.length - (intOf i).toNat)
    case atStart => exact ⟨0, Nat.zero_le _, rfl, fun h => absurd h (Nat.lt_irrefl 0)⟩
    case round =>
      obtain ⟨k, hk, rfl, HK⟩ := hrel
      have hk0 : (0 : Int) ≤ (k : Int) := by omega
      by_cases hlt : k < hs.length
      · have hkz : (k : Int) < (hs.length : Int) := by omega
        obtain ⟨b, off, rfl, hb, hc⟩ := HR.out k _ (hdrAt_lt hlt)
        unfold hdrV at hc
        have hnx : (hdrAt hs k).2.1.length ≤ 1000 → Hid (0 < k + 1 → (hdrAt hs 0).2.1.length ≤ 1000) := fun h _ => by
          rcases Nat.eq_zero_or_pos k with rfl | h'
          · exact h
          · exact HK.out h'
        obtain ⟨V, hV1⟩ : ∃ V, (hdrAt hs k).1 = V := ⟨_, rfl⟩
        obtain ⟨n, hV2⟩ : ∃ n, (hdrAt hs k).2.1.length = n := ⟨_, rfl⟩
        obtain ⟨cv, hV3⟩ : ∃ cv, (hdrAt hs k).2.2 = cv := ⟨_, rfl⟩
        rw [hV1, hV2, hV3] at hc
        rw [hV2] at hnx
        clear hV1 hV2 hV3 HK
        by_cases h1000 : n ≤ 1000
        · have h1000' : (n : Int) ≤ 1000 := by omega
          have hnx' := hnx h1000
          clear hnx
          go_wp2
          go_round
          case rel => exact ⟨k + 1, by omega, by go_num, hnx'⟩
          case measure => simp [intOf]; omega
        · have h1000' : (1000 : Int) < (n : Int) := by omega
          clear hnx
          go_wp2_with fail
          refine (vec_lives_any _).mono ?_
          rintro e w1 ⟨rfl, hb⟩
          go_wp2
          go_ret
          exact ⟨rfl, hb⟩
      · have hke : k = hs.length := by omega
        have hlen : (hdrAt hs 0).2.1.length ≤ 1000000 := by
          rcases Nat.eq_zero_or_pos k with h0 | h0
          · have : hs = [] := List.length_eq_zero_iff.1 (by omega)
            rw [this]
            exact Nat.zero_le _
          · have := HK.out h0
            omega
        clear HK
        go_wp2_with fail
        refine Calls.mono (Mean_any A hs c _ HR.out hl HV.out hlen) ?_
        rintro e w1 hm
        obtain ⟨hb1, M, cm, rfl, hv1⟩ := HFF.out _ _ _ hm
        clear hm
        go_wp2_with fail
        refine Calls.mono (ref_Mean_any A hs c _ (Rd_below HR.out hb1) hl (fun h hh => (HV.out h hh).below hb1) hlen) ?_
        rintro e w2 hm
        obtain ⟨hb2, M', cm', rfl, hv2⟩ := HFF.out _ _ _ hm
        have hv1' := hv1.below hb2
        have hB2 := Below.next hb1 hb2
        clear hm hb1 hb2 hv1
        go_wp2_with fail
        refine (vec_lives_any _).mono ?_
        rintro e w3 ⟨rfl, hb3⟩
        have HS := Lib.hid (ref_Same_any M M' xs xs cm cm' w3 (hv1'.below hb3) (hv2.below hb3))
        have hB3 := Below.next hB2 hb3
        rw [show decide (xs = xs) = true from by simp] at HS
        clear hv1' hv2 hB2 hb3
        go_wp2_with fail
        refine Calls.mono HS.out ?_
        rintro e w4 ⟨rfl, hd⟩
        have hB4 := Below.next hB3 (hd.below _)
        clear hB3 hd HS
        go_wp2
        go_ret
        exact ⟨by simp, hB4⟩

end Go.Proofs.Ytnfcmkmjahplpaa
