/- The plain side: the set of numbers, and two sets put together, by contract. -/
import Derived.Test.YtkfbgadcfinlfaaDoorRefBits
namespace Go.Proofs.YtkfbgadcfinlfaaDoor
open Go.RowKit

theorem add_bit_int (x : Int) (k : Nat) (hk : k < 64) (h0 : 0 ≤ x) (h1 : x ≤ 18446744073709551615) (hb : ¬ x / 2 ^ k % 2 = 1) : IntKind.u64.wrap (x + IntKind.u64.wrap (2 ^ k)) = orBit x k := by
  have hr := orBit_range x k hk h0 h1
  have hlt : (2 : Nat) ^ k < 2 ^ 64 := Nat.pow_lt_pow_right (by decide) hk
  have h64 : (2 : Nat) ^ 64 = 18446744073709551616 := by decide
  have hp : (2 : Int) ^ k = ((2 ^ k : Nat) : Int) := by simp
  unfold orBit at hr ⊢
  rw [if_neg hb] at hr ⊢
  rw [hp] at hr ⊢
  generalize 2 ^ k = p at *
  rw [IntKind.wrap_u64, IntKind.wrap_u64, Int.emod_eq_of_lt (a := (p : Int)) (by omega) (by omega), Int.emod_eq_of_lt (by omega) (by omega)]

theorem set_same (P : List Int) (i : Nat) (hi : i < P.length) : P.set i (P.getD i 0) = P := by
  rw [List.getD_eq_getElem?_getD, List.getElem?_eq_getElem hi]
  simp

set_option maxRecDepth 100000 in
set_option maxHeartbeats 2000000 in
theorem RefOf_any (A : Option Addr) (zs : List Int) (ln c : Nat) (w : World) (hln : zs.length = ln) (hA : Rd (Value.int .i64) w w.heap.size A zs) (hl : zs.length ≤ 9223372036854775807) :
    Calls Tryd.prog 13 #[.slice A ln c] w (WordsOut (ofL zs) w) := by
  subst hln
  obtain ⟨i0, hi0, hz0, hz1, hz2⟩ := info_parts info_word
  go_enter Tryd.func13, Tryd.ntmps13
  go_wp2
  go_loopw [3, 8] (fun v i wr => ∃ k : Nat, k ≤ zs.length ∧ i = .int .i64 k ∧ wr.ownsRow w.heap.size 38 1 v (ofL (zs.take k)).length ((ofL (zs.take k)).map (Value.int .u64)) ∧ Below w.heap.size w wr)
    (fun _ i _ => zs.length - (intOf i).toNat)
  case atStart => exact ⟨0, Nat.zero_le _, rfl, World.ownsRow_nil _ _ _ _, Below.refl _ _⟩
  case round =>
    obtain ⟨k, hk, rfl, hown, hbel⟩ := hrel
    by_cases hlt : k < zs.length
    · obtain ⟨b, off, rfl, hb, hc⟩ := (hA.below hbel).at_ hlt
      have hst := Lib.hid (of_step zs k hlt)
      have hwl := ofL_len (zs.take k)
      have hww := Lib.hid (ofL_words (zs.take k))
      generalize zs[k] = z at hc hst
      generalize ofL (zs.take k) = ws at *
      by_cases h1 : z < 0
      · have hs := Lib.hid (show ofStep ws z = ws from by unfold ofStep; rw [if_pos (.inl h1)])
        go_wp2
        go_roundw
        case rel => exact ⟨k + 1, by omega, by go_num, by rw [hst.out, hs.out]; exact hown, hbel⟩
        case measure => simp [intOf]; omega
      · have g1 : 0 ≤ z := by omega
        clear h1
        by_cases h2 : 4096 ≤ z
        · have hs := Lib.hid (show ofStep ws z = ws from by unfold ofStep; rw [if_pos (.inr h2)])
          go_wp2
          go_roundw
          case rel => exact ⟨k + 1, by omega, by go_num, by rw [hst.out, hs.out]; exact hown, hbel⟩
          case measure => simp [intOf]; omega
        · have g2 : z < 4096 := by omega
          clear h2
          obtain ⟨wo, rfl⟩ : ∃ wo : World, wo = wr := ⟨_, rfl⟩
          have hb0 := hbel.size
          go_wp2
          go_loopw [3] (fun v wr => ∃ j : Nat, ws.length + j ≤ max ws.length ((z / 64).toNat + 1) ∧ wr.ownsRow w.heap.size 38 1 v (ws.length + j) ((ws ++ List.replicate j 0).map (Value.int .u64)) ∧ Below w.heap.size w wr)
            (fun v _ => match v with | .slice _ n _ => 65 - n | _ => 0)
          case atStart => exact ⟨0, by omega, by simpa using hown, hbel⟩
          case round =>
            obtain ⟨j, hj, hown1, hbel1⟩ := hrel
            obtain ⟨Av, cv, rfl, hcv0, hcv1⟩ := own_slice hown1
            have hb1 := hbel1.size
            by_cases hin : ws.length + j ≤ (z / 64).toNat
            · have hin' : ((ws.length + j : Nat) : Int) ≤ z / 64 := by omega
              go_wp2_with (at_builtin; refine wpList_append_own _ rfl _ _ 22 rfl w.heap.size 38 i0 (.int .u64 0) 1 8 Tryd.underlying22 hi0 hz0 hz1 hz2 rfl (by decide) _ _ _ rfl (hown1.alloc _) ⟨wr.heap.size, 0, none⟩ 1 1 [.int .u64 0] rfl rfl ?c1 ?c2 ?c3 ?c4 ?c5 ?_)
              case c1 =>
                intro j u hj
                match j, hj with
                | 0, hj => simp at hj; subst hj; simp [Addr.add]
              case c2 => intro u hu; simp at hu; subst hu; rfl
              case c3 => unfold maxLen; omega
              case c4 => omega
              case c5 => simp; omega
              intro v' w2 hown2 hgrow _
              have hB := own_base (hown1.alloc (.cells #[.int .u64 0] 38)) (hbel1.alloc hb1 _) (Nat.le_refl _) (by simp; omega) hgrow
              clear hgrow hown1
              obtain ⟨A', c', rfl, _, _⟩ := own_slice hown2
              go_wp2
              go_roundw
              case rel => exact ⟨j + 1, by omega, by simpa [List.replicate_succ', Nat.add_assoc] using hown2, hB⟩
              case measure => simp; omega
            · have hin' : z / 64 < ((ws.length + j : Nat) : Int) := by omega
              have hq : j = (z / 64).toNat + 1 - ws.length := by omega
              have hpad : ws ++ List.replicate j 0 = padTo ws ((z / 64).toNat + 1) := by unfold padTo; rw [hq]
              have hplen : (padTo ws ((z / 64).toNat + 1)).length = ws.length + j := by rw [← hpad]; simp
              rw [hpad] at hown1
              have hs := Lib.hid (show ofStep ws z = (padTo ws ((z / 64).toNat + 1)).set (z / 64).toNat (orBit ((padTo ws ((z / 64).toNat + 1)).getD (z / 64).toNat 0) (z % 64).toNat) from by unfold ofStep; rw [if_neg (by omega)])
              have hpw := hww.out.pad ((z / 64).toNat + 1)
              clear hpad hq hj
              generalize padTo ws ((z / 64).toNat + 1) = P at *
              generalize ws.length + j = n at *
              obtain ⟨g, rfl, hg0, hg1⟩ := own_pos hown1 (by omega)
              have hxr := hpw.getD (z / 64).toNat
              have hh := Lib.hid (RefHas_any (some ⟨g, 0, none⟩) P n cv z wr hplen (Rd.of_own hown1) hpw)
              have hbit : hasB P z = (P.getD (z / 64).toNat 0 / 2 ^ (z % 64).toNat % 2 == 1) := by unfold hasB; rw [decide_eq_true g1, decide_eq_true g2]; rfl
              have hsame := Lib.hid (set_same P (z / 64).toNat (by omega))
              have HPL := Lib.hid hplen
              by_cases hm : hasB P z = true
              · rw [hm] at hbit
                have hno : orBit (P.getD (z / 64).toNat 0) (z % 64).toNat = P.getD (z / 64).toNat 0 := by
                  unfold orBit
                  rw [if_pos (by simpa using hbit.symm)]
                have hs2 := Lib.hid (show ofStep ws z = P from by rw [hs.out, hno, hsame.out])
                have hmH := Lib.hid hm
                clear hm hno hbit hs hsame hplen hpw hxr
                go_wp2_with fail
                refine hh.out.mono ?_
                rintro e w1 ⟨rfl, rfl⟩
                rw [hmH.out]
                clear hh
                go_wp2
                go_roundw
                case rel => exact ⟨k + 1, by omega, by go_num, by rw [hst.out, hs2.out, HPL.out]; exact hown1, hbel1⟩
                case measure => simp [intOf]; omega
              · simp only [Bool.not_eq_true] at hm
                rw [hm] at hbit
                have hob := Lib.hid (add_bit_int (P.getD (z / 64).toNat 0) (z % 64).toNat (by omega) hxr.1 hxr.2 (by simpa using hbit.symm))
                have hcell : wr.cell? ⟨g, (z / 64).toNat, none⟩ = some (.int .u64 (P.getD (z / 64).toNat 0)) := by
                  rw [hown1.cellAt _ (by omega), List.getElem?_map, List.getElem?_eq_getElem (by omega), List.getD_eq_getElem?_getD, List.getElem?_eq_getElem (by omega)]
                  rfl
                have hfr : wr.frozen? ⟨g, (z / 64).toNat, none⟩ = false := hown1.frozenAt _
                have hstore := hown1.stored (z / 64).toNat (.int .u64 (orBit (P.getD (z / 64).toNat 0) (z % 64).toNat))
                have hmH := Lib.hid hm
                clear hplen hpw hown1 hm hbit hsame
                generalize P.getD (z / 64).toNat 0 = x at *
                obtain ⟨x0, x1⟩ := hxr
                go_wp2_with fail
                refine hh.out.mono ?_
                rintro e w1 ⟨rfl, rfl⟩
                rw [hmH.out]
                clear hh
                rw [← hob.out] at hstore
                go_wp2
                go_roundw
                case rel =>
                  refine ⟨k + 1, by omega, by go_num, ?_, (hbel1.setCell hg0 _)⟩
                  rw [hst.out, hs.out, List.length_set, HPL.out, List.map_set, ← hob.out]
                  exact hstore.1
                case measure => simp [intOf]; omega
    · go_wp2
      go_ret
      have hkk : zs.take k = zs := List.take_of_length_le (by omega)
      rw [hkk] at hown
      obtain ⟨A', c', rfl, h1, h2⟩ := own_slice hown
      exact ⟨A', c', rfl, Rd.of_own hown, h1, h2, hbel⟩

end Go.Proofs.YtkfbgadcfinlfaaDoor
