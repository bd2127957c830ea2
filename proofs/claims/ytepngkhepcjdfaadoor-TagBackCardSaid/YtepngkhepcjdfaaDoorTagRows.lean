/- Names of a mask: the program's, and the document's. -/
import Derived.Test.YtepngkhepcjdfaaDoorTagBits
namespace Go.Proofs.YtepngkhepcjdfaaDoor
open Go.RowKit

/-- The error of Names (0, 6, 7, 9, 10: as package api counts them), and the names. -/
def nmsW (zs : List ByteArray) (x : Int) : Nat := if chkT zs = 0 then (if ∀ m ∈ bitsL x, m < (zs.length : Int) then 0 else 6) else chkT zs
def nameAt (zs : List ByteArray) (i : Int) : ByteArray := zs.getD i.toNat ByteArray.empty
def nmsL (zs : List ByteArray) (x : Int) : List ByteArray := if nmsW zs x = 0 then (bitsL x).map (nameAt zs) else []

theorem nms_err (zs : List ByteArray) (x : Int) (h : chkT zs ≠ 0) : nmsW zs x = chkT zs ∧ nmsL zs x = [] := by
  have e : nmsW zs x = chkT zs := if_neg h
  exact ⟨e, if_neg (by rw [e]; exact h)⟩
theorem nms_range (zs : List ByteArray) (x m : Int) (h : chkT zs = 0) (hm : hasB [x] m = true) (hl : (zs.length : Int) ≤ m) : nmsW zs x = 6 ∧ nmsL zs x = [] := by
  have e : nmsW zs x = 6 := by
    unfold nmsW
    rw [if_pos h, if_neg]
    intro k
    have := k m ((bitsL_mem x m).2 hm)
    omega
  exact ⟨e, if_neg (by rw [e]; decide)⟩
theorem nms_ok (zs : List ByteArray) (x : Int) (h : chkT zs = 0) (hm : ∀ m ∈ bitsL x, m < (zs.length : Int)) : nmsW zs x = 0 ∧ nmsL zs x = (bitsL x).map (nameAt zs) := by
  have e : nmsW zs x = 0 := by
    unfold nmsW
    rw [if_pos h, if_pos hm]
  exact ⟨e, if_pos e⟩

/-- Texts that a call leaves, in memory of its own, and an error. -/
def TextsAre (L : List ByteArray) (why : Nat) (w : World) (e : Ending) (w' : World) : Prop :=
  ∃ (A : Option Addr) (c : Nat), e = .returned (.tuple #[.slice A L.length c, .int .i64 (why : Int)]) ∧ Rd Value.string w' w'.heap.size A L ∧ L.length ≤ c ∧ c ≤ 9223372036854775807 ∧ Below w.heap.size w w'

theorem info_str : (Tryd.prog.info? 9).map (fun i => (i.zero, i.size, i.bytes)) = some (some (.string (ByteArray.mk #[])), 1, 16) := by kernel_rfl

set_option maxHeartbeats 4000000 in
theorem Names_any (A : Option Addr) (zs : List ByteArray) (c : Nat) (x : Int) (w : World) (hA : Rd Value.string w w.heap.size A zs) (hc : zs.length ≤ c) (hm : c ≤ 9223372036854775807) (h0 : 0 ≤ x) (h1 : x ≤ 18446744073709551615) (hT : Tab w) :
    Calls Tryd.prog 7 #[.slice A zs.length c, .int .u64 x] w (TextsAre (nmsL zs x) (nmsW zs x) w) := by
  obtain ⟨i0, hi0, hz0, hz1, hz2⟩ := info_parts info_str
  by_cases ht : chkT zs = 0
  · have HX := Lib.hid (And.intro h0 h1)
    have HE := Lib.hid (fun m hm hl => nms_range zs x m ht hm hl)
    have HO := Lib.hid (nms_ok zs x ht)
    clear h0 h1
    go_enter Tryd.func7, Tryd.ntmps7
    go_wp2_with fail
    refine (Check_any A zs c _ hA hc hm).mono ?_
    rintro e w1 ⟨rfl, hb1⟩
    rw [ht]
    clear ht
    go_wp2_with fail
    refine (wordOf_any x _).mono ?_
    rintro e w2 ⟨A2, c2, rfl, hA2, hc2, hm2, hb2⟩
    have hb12 := hb1.trans (hb2.mono hb1.size)
    go_wp2_with fail
    refine (Next_any A2 [x] c2 (zs.length : Int) _ hA2 (words_one x HX.out.1 HX.out.2) hc2 hm2 (hT.below hb12) (by omega)).mono ?_
    rintro e w3 ⟨rfl, hn⟩
    rcases hn with ⟨m, rfl, hh, hle, _⟩ | ⟨rfl, hno⟩
    · have HW := Lib.hid (HE.out m hh hle)
      go_wp2
      go_ret2
      refine ⟨none, 0, by rw [HW.out.1, HW.out.2]; rfl, by rw [HW.out.2]; exact Rd.nil, by rw [HW.out.2]; exact Nat.le_refl _, by omega, hb12⟩
    · have hall : ∀ m ∈ bitsL x, m < (zs.length : Int) := fun m hm => by
        rcases Int.lt_or_le m (zs.length : Int) with h | h
        · exact h
        · have := hno m h
          rw [(bitsL_mem x m).1 hm] at this
          cases this
      have HW := Lib.hid (HO.out hall)
      have HL := Lib.hid (bitsL_len x)
      have HG := Lib.hid (fun k hk => bitsL_lt x k hk)
      have HA := Lib.hid hall
      clear hno HE HO hall
      go_wp2_with fail
      refine (Bits_any x _ HX.out.1 HX.out.2 (hT.below hb12)).mono ?_
      rintro e w4 ⟨A4, c4, rfl, hA4, hb4⟩
      have hb := hb12.trans (hb4.mono hb12.size)
      generalize bitsL x = B at HW HL HG HA hA4
      clear hb1 hb2 hb12 hA2
      go_wp2
      go_loopw [9, 29] (fun v i wr => ∃ k : Nat, k ≤ B.length ∧ i = .int .i64 k ∧ wr.ownsRow w4.heap.size 9 1 v k (((B.take k).map (nameAt zs)).map Value.string) ∧ Below w4.heap.size w4 wr)
        (fun _ i _ => B.length - (intOf i).toNat)
      case atStart => exact ⟨0, Nat.zero_le _, rfl, World.ownsRow_nil _ _ _ _, Below.refl _ _⟩
      case round =>
        obtain ⟨k, hk, rfl, hown, hbel⟩ := hrel
        have hsz := hbel.size
        by_cases hlt : k < B.length
        · obtain ⟨b, off, rfl, hbb, hcc⟩ := (hA4.below hbel).at_ hlt
          have hr := HG.out k hlt
          have hl := HA.out B[k] (List.getElem_mem hlt)
          have htk := List.take_succ_eq_append_getElem hlt
          have hBL := HL.out
          generalize B[k] = j at hcc hr hl htk
          obtain ⟨p, rfl⟩ := Int.eq_ofNat_of_zero_le hr.1
          have hpl : p < zs.length := by omega
          obtain ⟨b', off', rfl, hbb', hcc'⟩ := (hA.below ((hb.trans (hbel.mono hb.size)))).at_ hpl
          have hnm : nameAt zs (p : Int) = zs[p] := by
            unfold nameAt
            rw [Int.toNat_natCast, List.getD_eq_getElem?_getD, List.getElem?_eq_getElem hpl]
            rfl
          generalize zs[p] = z at hcc' hnm
          have HT := Lib.hid htk
          have HN := Lib.hid hnm
          clear htk hnm
          go_wp2_with (at_builtin; refine wpList_append_own _ rfl _ _ 22 rfl w4.heap.size 9 i0 (.string (ByteArray.mk #[])) 1 16 Tryd.underlying22 hi0 hz0 hz1 hz2 rfl (by decide) _ _ _ rfl (hown.alloc _) ⟨wr.heap.size, 0, none⟩ 1 1 [.string z] rfl rfl ?c1 ?c2 ?c3 ?c4 ?c5 ?_)
          case c1 =>
            intro j u hj
            match j, hj with
            | 0, hj => simp at hj; subst hj; simp [Addr.add]
          case c2 => intro u hu; simp at hu; subst hu; rfl
          case c3 => unfold maxLen; omega
          case c4 => omega
          case c5 => simp; omega
          intro v' w2 hown2 hgrow _
          have hB := own_base (hown.alloc (.cells #[.string z] 9)) (hbel.alloc hsz _) (Nat.le_refl _) (by simp; omega) hgrow
          clear hgrow hown
          go_wp2
          go_roundw
          case rel =>
            refine ⟨k + 1, by omega, by go_num, ?_, hB⟩
            rw [HT.out, List.map_append, List.map_append, List.map_cons, List.map_nil, HN.out]
            simpa using hown2
          case measure => simp [intOf]; omega
        · have hkk : k = B.length := by omega
          go_wp2
          go_ret2
          obtain ⟨A', c', rfl, g1, g2⟩ := own_slice hown
          subst hkk
          rw [List.take_length] at hown
          refine ⟨A', c', by rw [HW.out.1, HW.out.2, List.length_map]; rfl, by rw [HW.out.2]; exact Rd.of_own hown, by rw [HW.out.2, List.length_map]; exact g1, g2, hb.trans (hbel.mono hb.size)⟩
  · have HW := Lib.hid (nms_err zs x ht)
    go_enter Tryd.func7, Tryd.ntmps7
    go_wp2_with fail
    refine (Check_any A zs c _ hA hc hm).mono ?_
    rintro e w1 ⟨rfl, hb1⟩
    generalize chkT zs = t at ht HW
    have ht' : ((t : Int) != 0) = true := by rw [bne_iff_ne]; omega
    go_wp2
    go_ret2
    exact ⟨none, 0, by rw [HW.out.1, HW.out.2]; rfl, by rw [HW.out.2]; exact Rd.nil, by rw [HW.out.2]; exact Nat.le_refl _, by omega, hb1⟩

end Go.Proofs.YtepngkhepcjdfaaDoor
