/- bitset.Of by contract: the words that it makes of numbers. -/
import Derived.Test.YtkfbgadcfinlfaaDoorBitWalks
namespace Go.Proofs.YtkfbgadcfinlfaaDoor
open Go.RowKit

theorem own_slice {w : World} {base : Nat} {e : TypeId} {size n : Nat} {v : Value} {xs : List Value} (h : w.ownsRow base e size v n xs) : ∃ A c, v = .slice A n c ∧ n ≤ c ∧ c ≤ 9223372036854775807 := by
  rcases h.2 with ⟨rfl, h0⟩ | ⟨g', cap, cur, rfl, _, _, hn, hm, _⟩
  · exact ⟨none, 0, by rw [h0], by omega, by omega⟩
  · exact ⟨_, _, rfl, hn, by unfold maxLen at hm; omega⟩

theorem own_pos {w : World} {base : Nat} {e : TypeId} {size n c : Nat} {A : Option Addr} {xs : List Value} (h : w.ownsRow base e size (.slice A n c) n xs) (hn : 0 < n) : ∃ g, A = some ⟨g, 0, none⟩ ∧ base ≤ g ∧ g < w.heap.size := by
  rcases h.2 with ⟨_, h0⟩ | ⟨g', cap, cur, hv, hg, hh, _⟩
  · omega
  · injection hv with hv _ _
    exact ⟨g', hv, hg, (Array.getElem?_eq_some_iff.1 hh).1⟩

theorem own_base {w w' : World} {B base : Nat} {e : TypeId} {size n : Nat} {v : Value} {xs : List Value} {a : World} (h : w.ownsRow base e size v n xs) (hb : Below B a w) (hbase : B ≤ base) (hsz : B ≤ w.heap.size) (hg : w.grownBy w' v.ownBlock) : Below B a w' :=
  hb.grown hg hsz (fun g he => by
    rcases h.2 with ⟨rfl, _⟩ | ⟨g', cap, cur, rfl, hg', _⟩
    · simp [Value.ownBlock] at he
    · simp [Value.ownBlock] at he; omega)

theorem or_bit_int (x : Int) (k : Nat) (hk : k < 64) (h0 : 0 ≤ x) (h1 : x ≤ 18446744073709551615) : bits .or .u64 x (IntKind.u64.wrap (2 ^ k)) = orBit x k := by
  obtain ⟨X, rfl⟩ := Int.eq_ofNat_of_zero_le h0
  have hp : (2 : Int) ^ k = ((2 ^ k : Nat) : Int) := by simp
  have hlt : 2 ^ k < 2 ^ 64 := Nat.pow_lt_pow_right (by decide) hk
  have h64 : 2 ^ 64 = 18446744073709551616 := by decide
  have hor := or_bit X k
  unfold orBit
  rw [hp, ← Int.natCast_ediv]
  generalize 2 ^ k = p at *
  rw [IntKind.wrap_u64, Int.emod_eq_of_lt (by omega) (by omega), bits_or_u64 (X : Int) (p : Int) (by omega) (by omega) (by omega) (by omega), Int.toNat_natCast, Int.toNat_natCast, hor]
  generalize X / p = q at *
  by_cases h : q % 2 = 1
  · rw [if_pos h, if_pos (by omega)]
  · rw [if_neg h, if_neg (by omega)]
    omega

theorem ofStep_len (ws : List Int) (n : Int) (h : ws.length ≤ 64) : (ofStep ws n).length ≤ 64 := by
  unfold ofStep
  split
  · exact h
  · rw [List.length_set, padTo_length]
    omega

theorem ofStep_words (ws : List Int) (n : Int) (h : Words ws) : Words (ofStep ws n) := by
  unfold ofStep
  split
  · exact h
  · have hp := h.pad ((n / 64).toNat + 1)
    have hg := hp.getD (n / 64).toNat
    have ho := orBit_range _ (n % 64).toNat (by omega) hg.1 hg.2
    exact hp.set _ _ ho.1 ho.2

theorem ofFold_len (l ws : List Int) (h : ws.length ≤ 64) : (l.foldl ofStep ws).length ≤ 64 := by
  induction l generalizing ws with
  | nil => exact h
  | cons n r ih => exact ih _ (ofStep_len ws n h)
theorem ofFold_words (l ws : List Int) (h : Words ws) : Words (l.foldl ofStep ws) := by
  induction l generalizing ws with
  | nil => exact h
  | cons n r ih => exact ih _ (ofStep_words ws n h)
theorem ofL_len (l : List Int) : (ofL l).length ≤ 64 := ofFold_len l [] (by simp)
theorem ofL_words (l : List Int) : Words (ofL l) := ofFold_words l [] (by intro z hz; cases hz)

theorem of_step (zs : List Int) (k : Nat) (hk : k < zs.length) : ofL (zs.take (k + 1)) = ofStep (ofL (zs.take k)) zs[k] := by
  unfold ofL
  rw [List.take_add_one, List.getElem?_eq_getElem hk, List.foldl_append]
  rfl

/-- A list of words comes back in new memory. -/
def WordsOut (ws : List Int) (w : World) (e : Ending) (w' : World) : Prop :=
  ∃ A c, e = .returned (.slice A ws.length c) ∧ Rd (Value.int .u64) w' w'.heap.size A ws ∧ ws.length ≤ c ∧ c ≤ 9223372036854775807 ∧ Below w.heap.size w w'

theorem info_word : (Tryd.prog.info? 38).map (fun i => (i.zero, i.size, i.bytes)) = some (some (.int .u64 0), 1, 8) := by kernel_rfl

set_option maxHeartbeats 2000000 in
theorem Of_any (A : Option Addr) (zs : List Int) (c : Nat) (w : World) (hA : Rd (Value.int .i64) w w.heap.size A zs) (hl : zs.length ≤ 9223372036854775807) :
    Calls Tryd.prog 12 #[.slice A zs.length c] w (WordsOut (ofL zs) w) := by
  obtain ⟨i0, hi0, hz0, hz1, hz2⟩ := info_parts info_word
  go_enter Tryd.func12, Tryd.ntmps12
  go_wp2
  go_loopw [3, 8] (fun v i wr => ∃ k : Nat, k ≤ zs.length ∧ i = .int .i64 k ∧ wr.ownsRow w.heap.size 38 1 v (ofL (zs.take k)).length ((ofL (zs.take k)).map (Value.int .u64)) ∧ Below w.heap.size w wr)
    (fun _ i _ => zs.length - (intOf i).toNat)
  case atStart => exact ⟨0, Nat.zero_le _, rfl, World.ownsRow_nil _ _ _ _, Below.refl _ _⟩
  case round =>
    obtain ⟨k, hk, rfl, hown, hbel⟩ := hrel
    by_cases hlt : k < zs.length
    · obtain ⟨b, off, rfl, hb, hc⟩ := (hA.below hbel).at_ hlt
      have hst := Lib.hid (of_step zs k hlt)
      have hwl := ofL_len (zs.take k)
      have hww := Lib.hid (ofL_words (zs.take k))
      generalize zs[k] = z at hc hst
      generalize ofL (zs.take k) = ws at *
      by_cases h1 : z < 0
      · have hs := Lib.hid (show ofStep ws z = ws from by unfold ofStep; rw [if_pos (.inl h1)])
        go_wp2
        go_roundw
        case rel => exact ⟨k + 1, by omega, by go_num, by rw [hst.out, hs.out]; exact hown, hbel⟩
        case measure => simp [intOf]; omega
      · have g1 : 0 ≤ z := by omega
        clear h1
        by_cases h2 : 4096 ≤ z
        · have hs := Lib.hid (show ofStep ws z = ws from by unfold ofStep; rw [if_pos (.inr h2)])
          go_wp2
          go_roundw
          case rel => exact ⟨k + 1, by omega, by go_num, by rw [hst.out, hs.out]; exact hown, hbel⟩
          case measure => simp [intOf]; omega
        · have g2 : z < 4096 := by omega
          clear h2
          obtain ⟨wo, rfl⟩ : ∃ wo : World, wo = wr := ⟨_, rfl⟩
          have hb0 := hbel.size
          go_wp2
          go_loopw [3] (fun v wr => ∃ j : Nat, ws.length + j ≤ max ws.length ((z / 64).toNat + 1) ∧ wr.ownsRow w.heap.size 38 1 v (ws.length + j) ((ws ++ List.replicate j 0).map (Value.int .u64)) ∧ Below w.heap.size w wr)
            (fun v _ => match v with | .slice _ n _ => 65 - n | _ => 0)
          case atStart => exact ⟨0, by omega, by simpa using hown, hbel⟩
          case round =>
            obtain ⟨j, hj, hown1, hbel1⟩ := hrel
            obtain ⟨Av, cv, rfl, hcv0, hcv1⟩ := own_slice hown1
            have hb1 := hbel1.size
            by_cases hin : ws.length + j ≤ (z / 64).toNat
            · have hin' : ((ws.length + j : Nat) : Int) ≤ z / 64 := by omega
              go_wp2_with (at_builtin; refine wpList_append_own _ rfl _ _ 22 rfl w.heap.size 38 i0 (.int .u64 0) 1 8 Tryd.underlying22 hi0 hz0 hz1 hz2 rfl (by decide) _ _ _ rfl (hown1.alloc _) ⟨wr.heap.size, 0, none⟩ 1 1 [.int .u64 0] rfl rfl ?c1 ?c2 ?c3 ?c4 ?c5 ?_)
              case c1 =>
                intro j u hj
                match j, hj with
                | 0, hj => simp at hj; subst hj; simp [Addr.add]
              case c2 => intro u hu; simp at hu; subst hu; rfl
              case c3 => unfold maxLen; omega
              case c4 => omega
              case c5 => simp; omega
              intro v' w2 hown2 hgrow _
              have hB := own_base (hown1.alloc (.cells #[.int .u64 0] 38)) (hbel1.alloc hb1 _) (Nat.le_refl _) (by simp; omega) hgrow
              clear hgrow hown1
              obtain ⟨A', c', rfl, _, _⟩ := own_slice hown2
              go_wp2
              go_roundw
              case rel => exact ⟨j + 1, by omega, by simpa [List.replicate_succ', Nat.add_assoc] using hown2, hB⟩
              case measure => simp; omega
            · have hin' : z / 64 < ((ws.length + j : Nat) : Int) := by omega
              have hq : j = (z / 64).toNat + 1 - ws.length := by omega
              have hpad : ws ++ List.replicate j 0 = padTo ws ((z / 64).toNat + 1) := by unfold padTo; rw [hq]
              have hplen : (padTo ws ((z / 64).toNat + 1)).length = ws.length + j := by rw [← hpad]; simp
              rw [hpad] at hown1
              have hs := Lib.hid (show ofStep ws z = (padTo ws ((z / 64).toNat + 1)).set (z / 64).toNat (orBit ((padTo ws ((z / 64).toNat + 1)).getD (z / 64).toNat 0) (z % 64).toNat) from by unfold ofStep; rw [if_neg (by omega)])
              have hpw := hww.out.pad ((z / 64).toNat + 1)
              clear hpad hq hj
              generalize padTo ws ((z / 64).toNat + 1) = P at *
              generalize ws.length + j = n at *
              obtain ⟨g, rfl, hg0, hg1⟩ := own_pos hown1 (by omega)
              have hxr := hpw.getD (z / 64).toNat
              have hcell : wr.cell? ⟨g, (z / 64).toNat, none⟩ = some (.int .u64 (P.getD (z / 64).toNat 0)) := by
                rw [hown1.cellAt _ (by omega), List.getElem?_map, List.getElem?_eq_getElem (by omega), List.getD_eq_getElem?_getD, List.getElem?_eq_getElem (by omega)]
                rfl
              have hfr : wr.frozen? ⟨g, (z / 64).toNat, none⟩ = false := hown1.frozenAt _
              have hstore := hown1.stored (z / 64).toNat (.int .u64 (orBit (P.getD (z / 64).toNat 0) (z % 64).toNat))
              have hob := Lib.hid (or_bit_int (P.getD (z / 64).toNat 0) (z % 64).toNat (by omega) hxr.1 hxr.2)
              have HPL := Lib.hid hplen
              clear hplen hpw hown1
              generalize P.getD (z / 64).toNat 0 = x at *
              obtain ⟨x0, x1⟩ := hxr
              go_wp2
              go_region
              rw [← hob.out] at hstore
              go_wp2
              go_roundw
              case rel =>
                refine ⟨k + 1, by omega, by go_num, ?_, (hbel1.setCell hg0 _).drew⟩
                rw [hst.out, hs.out, List.length_set, HPL.out, List.map_set, ← hob.out]
                exact hstore.1
              case measure => simp [intOf]; omega
    · go_wp2
      go_ret
      have hkk : zs.take k = zs := List.take_of_length_le (by omega)
      rw [hkk] at hown
      obtain ⟨A', c', rfl, h1, h2⟩ := own_slice hown
      exact ⟨A', c', rfl, Rd.of_own hown, h1, h2, hbel⟩

end Go.Proofs.YtkfbgadcfinlfaaDoor
