/- Names of a mask: the document's. -/
import Derived.Test.YtepngkhepcjdfaaDoorTagRows
namespace Go.Proofs.YtepngkhepcjdfaaDoor
open Go.RowKit

set_option maxHeartbeats 4000000 in
theorem refNames_any (A : Option Addr) (zs : List ByteArray) (c : Nat) (x : Int) (w : World) (hA : Rd Value.string w w.heap.size A zs) (hm : zs.length ≤ 9223372036854775807) (hz : ∀ z ∈ zs, z.size ≤ 9223372036854775807) (h0 : 0 ≤ x) (h1 : x ≤ 18446744073709551615) :
    Calls Tryd.prog 8 #[.slice A zs.length c, .int .u64 x] w (TextsAre (nmsL zs x) (nmsW zs x) w) := by
  obtain ⟨i0, hi0, hz0, hz1, hz2⟩ := info_parts info_str
  by_cases ht : chkT zs = 0
  · have HX := Lib.hid (And.intro h0 h1)
    have HE := Lib.hid (fun m (hm : m ∈ bitsL x) hl => nms_range zs x m ht ((bitsL_mem x m).1 hm) hl)
    have HO := Lib.hid (nms_ok zs x ht)
    clear h0 h1
    go_enter Tryd.func8, Tryd.ntmps8
    go_wp2_with fail
    refine (refCheck_any A zs c _ hA hm hz).mono ?_
    rintro e w1 ⟨rfl, rfl⟩
    rw [ht]
    clear ht
    go_wp2_with fail
    refine (refBits_any x _ HX.out.1 HX.out.2).mono ?_
    rintro e w4 ⟨A4, c4, rfl, hA4, hb⟩
    have HL := Lib.hid (bitsL_len x)
    have HG := Lib.hid (fun k hk => bitsL_lt x k hk)
    generalize bitsL x = B at HL HG HE HO hA4
    go_wp2
    go_loopw [7, 18] (fun v i wr => ∃ k : Nat, k ≤ B.length ∧ i = .int .i64 k ∧ wr.ownsRow w4.heap.size 9 1 v k (((B.take k).map (nameAt zs)).map Value.string) ∧ Hid (∀ m ∈ B.take k, m < (zs.length : Int)) ∧ Below w4.heap.size w4 wr)
      (fun _ i _ => B.length - (intOf i).toNat)
    case atStart => exact ⟨0, Nat.zero_le _, rfl, World.ownsRow_nil _ _ _ _, by simp [Hid], Below.refl _ _⟩
    case round =>
      obtain ⟨k, hk, rfl, hown, HA, hbel⟩ := hrel
      have hsz := hbel.size
      by_cases hlt : k < B.length
      · obtain ⟨b, off, rfl, hbb, hcc⟩ := (hA4.below hbel).at_ hlt
        have hr := HG.out k hlt
        have HE' := Lib.hid (HE.out B[k] (List.getElem_mem hlt))
        have htk := List.take_succ_eq_append_getElem hlt
        have hBL := HL.out
        generalize B[k] = j at hcc hr HE' htk
        obtain ⟨p, rfl⟩ := Int.eq_ofNat_of_zero_le hr.1
        by_cases hpl : p < zs.length
        · obtain ⟨b', off', rfl, hbb', hcc'⟩ := (hA.below ((hb.trans (hbel.mono hb.size)))).at_ hpl
          have hnm : nameAt zs (p : Int) = zs[p] := by
            unfold nameAt
            rw [Int.toNat_natCast, List.getD_eq_getElem?_getD, List.getElem?_eq_getElem hpl]
            rfl
          generalize zs[p] = z at hcc' hnm
          have HT := Lib.hid htk
          have HN := Lib.hid hnm
          clear htk hnm
          go_wp2_with (at_builtin; refine wpList_append_own _ rfl _ _ 22 rfl w4.heap.size 9 i0 (.string (ByteArray.mk #[])) 1 16 Tryd.underlying22 hi0 hz0 hz1 hz2 rfl (by decide) _ _ _ rfl (hown.alloc _) ⟨wr.heap.size, 0, none⟩ 1 1 [.string z] rfl rfl ?c1 ?c2 ?c3 ?c4 ?c5 ?_)
          case c1 =>
            intro j u hj
            match j, hj with
            | 0, hj => simp at hj; subst hj; simp [Addr.add]
          case c2 => intro u hu; simp at hu; subst hu; rfl
          case c3 => unfold maxLen; omega
          case c4 => omega
          case c5 => simp; omega
          intro v' w2 hown2 hgrow _
          have hB := own_base (hown.alloc (.cells #[.string z] 9)) (hbel.alloc hsz _) (Nat.le_refl _) (by simp; omega) hgrow
          clear hgrow hown
          go_wp2
          go_roundw
          case rel =>
            refine ⟨k + 1, by omega, by go_num, ?_, ?_, hB⟩
            · rw [HT.out, List.map_append, List.map_append, List.map_cons, List.map_nil, HN.out]
              simpa using hown2
            · rw [Hid, HT.out]
              intro m hm'
              rcases List.mem_append.1 hm' with h | h
              · exact HA.out m h
              · rw [List.mem_singleton] at h
                subst h
                omega
          case measure => simp [intOf]; omega
        · have HW := Lib.hid (HE'.out (by omega))
          have hge : (zs.length : Int) ≤ (p : Int) := by omega
          clear hpl htk
          go_wp2
          go_ret2
          exact ⟨none, 0, by rw [HW.out.1, HW.out.2]; rfl, by rw [HW.out.2]; exact Rd.nil, by rw [HW.out.2]; exact Nat.le_refl _, by omega, hb.trans (hbel.mono hb.size)⟩
      · have hkk : k = B.length := by omega
        go_wp2
        go_ret2
        obtain ⟨A', c', rfl, g1, g2⟩ := own_slice hown
        subst hkk
        rw [List.take_length] at hown HA
        have HW := HO.out HA.out
        refine ⟨A', c', by rw [HW.1, HW.2, List.length_map]; rfl, by rw [HW.2]; exact Rd.of_own hown, by rw [HW.2, List.length_map]; exact g1, g2, hb.trans (hbel.mono hb.size)⟩
  · have HW := Lib.hid (nms_err zs x ht)
    go_enter Tryd.func8, Tryd.ntmps8
    go_wp2_with fail
    refine (refCheck_any A zs c _ hA hm hz).mono ?_
    rintro e w1 ⟨rfl, rfl⟩
    generalize chkT zs = t at ht HW
    have ht' : ((t : Int) != 0) = true := by rw [bne_iff_ne]; omega
    go_wp2
    go_ret2
    exact ⟨none, 0, by rw [HW.out.1, HW.out.2]; rfl, by rw [HW.out.2]; exact Rd.nil, by rw [HW.out.2]; exact Nat.le_refl _, by omega, Below.refl _ _⟩

end Go.Proofs.YtepngkhepcjdfaaDoor
