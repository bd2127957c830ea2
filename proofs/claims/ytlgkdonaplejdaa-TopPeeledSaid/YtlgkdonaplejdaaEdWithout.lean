/- edges.Without by contract. -/
import Derived.Test.YtlgkdonaplejdaaEdInts
import Derived.Handy
namespace Go.Proofs.Ytlgkdonaplejdaa
open Go.RowKit Go.Shelf

/-- The list without a number. -/
def withoutI (zs : List Int) (n : Int) : List Int := zs.filter fun z => decide (¬ z = n)
theorem withoutI_snoc (zs : List Int) (n z : Int) : withoutI (zs ++ [z]) n = if z = n then withoutI zs n else withoutI zs n ++ [z] := by
  unfold withoutI
  rw [List.filter_append]
  by_cases h : z = n <;> simp [h]
theorem withoutI_len (zs : List Int) (n : Int) : (withoutI zs n).length ≤ zs.length := List.length_filter_le _ _
theorem take_snocI {zs : List Int} {k : Nat} (h : k < zs.length) : zs.take (k + 1) = zs.take k ++ [zs[k]] := List.take_succ_eq_append_getElem h

/-- Numbers that a call leaves, in a row of its own. -/
def WithoutOut (L : List Int) (w : World) (e : Ending) (w' : World) : Prop :=
  ∃ A c, e = .returned (.slice A L.length c) ∧ w'.ownsRow w.heap.size 3 1 (.slice A L.length c) L.length (L.map (Value.int .i64)) ∧ Below w.heap.size w w'

set_option maxRecDepth 100000 in
set_option maxHeartbeats 2000000 in
theorem Without_any (A : Option Addr) (zs : List Int) (c : Nat) (n : Int) (w : World) (hA : Rd (Value.int .i64) w w.heap.size A zs) (hl : zs.length ≤ 100000) :
    Calls Try.prog 69 #[.slice A zs.length c, .int .i64 n] w (WithoutOut (withoutI zs n) w) := by
  obtain ⟨i0, hi0, hz0, hz1, hz2⟩ := info_parts info_int
  have hb8 : i0.bytes * zs.length ≤ 281474976710656 := by rw [hz2]; omega
  have hml : zs.length ≤ maxLen := by unfold maxLen; omega
  go_enter Try.func69, Try.ntmps69
  go_wp2_with (at_make; refine wpList_make_own _ rfl _ _ _ rfl w.heap.size 3 i0 (.int .i64 0) 1 Try.underlying44 hi0 hz0 hz1 _ _ _ zs.length rfl rfl rfl hb8 hml (Nat.le_refl _) ?_; intro w1 hown hgr)
  have hbel : Below w.heap.size w w1 := (Below.refl _ _).grown hgr (Nat.le_refl _) (fun _ h => by cases h)
  clear hgr hb8 hml
  go_wp2
  go_loopw [5, 13] (fun v i wr => ∃ (k : Nat) (L : List Int), k ≤ zs.length ∧ i = .int .i64 k ∧ wr.ownsRow w.heap.size 3 1 v L.length (L.map (Value.int .i64)) ∧ Hid (L = withoutI (zs.take k) n) ∧ Below w.heap.size w wr) (fun _ i _ => zs.length - (intOf i).toNat)
  case atStart => exact ⟨0, [], Nat.zero_le _, rfl, by simpa using hown, rfl, hbel⟩
  case round =>
    clear hown hbel
    obtain ⟨k, L, hk, rfl, hown, HL, hbel⟩ := hrel
    have hsz : w.heap.size ≤ wr.heap.size := hbel.size
    by_cases hlt : k < zs.length
    · obtain ⟨b, off, rfl, hb, h0⟩ := hA.below hbel k _ (List.getElem?_eq_getElem hlt)
      have HT := Lib.hid (take_snocI hlt)
      have HLL : L.length ≤ zs.length := by rw [HL.out]; exact Nat.le_trans (withoutI_len _ _) (by simp; omega)
      generalize zs[k] = z at *
      have HS := Lib.hid (withoutI_snoc (zs.take k) n z)
      have hkl : (k : Int) < (zs.length : Int) := by omega
      have hk0 : (0 : Int) ≤ (k : Int) := by omega
      by_cases hx : z = n
      · subst hx
        go_wp2
        go_roundw
        case rel => exact ⟨k + 1, L, by omega, by go_num, hown, by rw [Hid, HT.out, HS.out, if_pos rfl]; exact HL.out, hbel⟩
        case measure => simp [intOf]; omega
      · go_wp2_with (at_builtin; refine wpList_append_own _ rfl _ _ 44 rfl w.heap.size 3 i0 (.int .i64 0) 1 8 Try.underlying44 hi0 hz0 hz1 hz2 rfl (by decide) _ _ _ rfl (hown.alloc _) ⟨wr.heap.size, 0, none⟩ 1 1 [.int .i64 z] rfl rfl ?c1 ?c2 ?c3 ?c4 ?c5 ?_)
        case c1 =>
          intro j u hj
          match j, hj with
          | 0, hj => simp at hj; subst hj; simp [Addr.add]
        case c2 => intro u hu; simp at hu; subst hu; rfl
        case c3 => unfold maxLen; omega
        case c4 => omega
        case c5 => simp; omega
        intro v' w2 hown2 hgrow _
        have hB2 := ownBase (hown.alloc _) (hbel.alloc hsz _) (Nat.le_refl _) (by simp; omega) hgrow
        have hown3 : w2.ownsRow w.heap.size 3 1 v' (L ++ [z]).length ((L ++ [z]).map (Value.int .i64)) := by
          rw [List.map_append, List.length_append]; exact hown2
        clear hgrow hown hown2
        go_wp2
        go_roundw
        case rel => exact ⟨k + 1, L ++ [z], by omega, by go_num, hown3, by rw [Hid, HT.out, HS.out, if_neg hx, ← HL.out], hB2⟩
        case measure => simp [intOf]; omega
    · have HE : Hid (L = withoutI zs n) := by
        rw [Hid, HL.out, List.take_of_length_le (by omega)]
      go_wp2
      go_ret
      rw [← HE.out]
      obtain ⟨A', c', rfl, _, _⟩ := ownSlice hown
      exact ⟨A', c', rfl, hown, hbel⟩

end Go.Proofs.Ytlgkdonaplejdaa
