/- Text of package tag, and the document's, by contract. -/
import Derived.Test.YtepngkhepcjdfaaDoorTagJoin
import Derived.Test.YtepngkhepcjdfaaDoorTagRows2
import Derived.Test.YtepngkhepcjdfaaDoorShelf
namespace Go.Proofs.YtepngkhepcjdfaaDoor
open Go.RowKit

/-- A text and an error that a call leaves. -/
def TextOut (t : ByteArray) (why : Nat) (w : World) (e : Ending) (w' : World) : Prop := e = .returned (.tuple #[.string t, .int .i64 (why : Int)]) ∧ Below w.heap.size w w'
/-- A mask's text. -/
def txtB (zs : List ByteArray) (x : Int) : ByteArray := joinB (nmsL zs x)

theorem Join_any (A : Option Addr) (L : List ByteArray) (c : Nat) (w : World) (hA : Rd Value.string w w.heap.size A L) (hc : L.length ≤ c) (hN : L.length ≤ 140737488355328) (hlen : (Lib.join (L.map (·.data.toList)) [43]).length ≤ 140737488355328) :
    Calls Tryd.prog 23 #[.slice A L.length c, .string (ByteArray.mk #[43])] w fun e w' => e = .returned (.string (joinB L)) ∧ Below w.heap.size w w' := by
  by_cases h0 : L.length = 0
  · rw [h0]
    obtain rfl := List.eq_nil_of_length_eq_zero h0
    exact (Tryd.strings_Join_none A c _ w).mono fun e w' ⟨he, hw⟩ => ⟨he, hw ▸ Below.refl _ _⟩
  · obtain ⟨b, off, rfl, hb, _⟩ := hA.at_ (by omega : 0 < L.length)
    refine (Tryd.strings_Join b off c L (ByteArray.mk #[43]) w (fun j x hx => ?_) hb hN hc hlen).mono fun e w' ⟨he, hw⟩ => ⟨by rw [he]; exact congrArg (fun q => Ending.returned (.string q)) (joinB_eq L), hw⟩
    obtain ⟨b', off', e, _, hcell⟩ := hA j x hx
    injection e with e
    injection e with e1 e2
    subst e1 e2
    exact hcell

set_option maxHeartbeats 1000000 in
theorem Text_any (A : Option Addr) (zs : List ByteArray) (c : Nat) (x : Int) (w : World) (hA : Rd Value.string w w.heap.size A zs) (hc : zs.length ≤ c) (hm : c ≤ 9223372036854775807) (h0 : 0 ≤ x) (h1 : x ≤ 18446744073709551615) (hT : Tab w) :
    Calls Tryd.prog 9 #[.slice A zs.length c, .int .u64 x] w (TextOut (txtB zs x) (nmsW zs x) w) := by
  have HS := Lib.hid (nms_small zs x).2
  have HJ := Lib.hid (nms_join zs x)
  go_enter Tryd.func9, Tryd.ntmps9
  go_wp2_with fail
  refine (Names_any A zs c x _ hA hc hm h0 h1 hT).mono ?_
  rintro e w1 ⟨A1, c1, rfl, hA1, hc1, hm1, hb1⟩
  have HX : Hid (txtB zs x = joinB (nmsL zs x)) := rfl
  generalize nmsL zs x = L at *
  generalize nmsW zs x = why at *
  go_wp2_with fail
  refine (Join_any A1 L c1 _ hA1 hc1 (by have := HS.out; omega) HJ.out).mono ?_
  rintro e w2 ⟨rfl, hb2⟩
  rw [← HX.out]
  go_wp2
  go_ret2
  exact ⟨rfl, hb1.trans (hb2.mono hb1.size)⟩

set_option maxHeartbeats 1000000 in
theorem refText_any (A : Option Addr) (zs : List ByteArray) (c : Nat) (x : Int) (w : World) (hA : Rd Value.string w w.heap.size A zs) (hm : zs.length ≤ 9223372036854775807) (hz : ∀ z ∈ zs, z.size ≤ 9223372036854775807) (h0 : 0 ≤ x) (h1 : x ≤ 18446744073709551615) :
    Calls Tryd.prog 10 #[.slice A zs.length c, .int .u64 x] w (TextOut (txtB zs x) (nmsW zs x) w) := by
  have HS := Lib.hid (nms_small zs x)
  go_enter Tryd.func10, Tryd.ntmps10
  go_wp2_with fail
  refine (refNames_any A zs c x _ hA hm hz h0 h1).mono ?_
  rintro e w1 ⟨A1, c1, rfl, hA1, hc1, hm1, hb1⟩
  have HX : Hid (txtB zs x = joinB (nmsL zs x)) := rfl
  generalize nmsL zs x = L at *
  generalize nmsW zs x = why at *
  have hL := HS.out.2
  go_wp2
  go_loop [8, 19] (fun v i => ∃ k : Nat, k ≤ L.length ∧ i = .int .i64 k ∧ v = .string (joinB (L.take k)))
    (fun _ i => L.length - (intOf i).toNat)
  case atStart => exact ⟨0, Nat.zero_le _, rfl, rfl⟩
  case round =>
    obtain ⟨k, hk, rfl, rfl⟩ := hrel
    by_cases hlt : k < L.length
    · obtain ⟨b, off, rfl, hbb, hcc⟩ := hA1.at_ hlt
      have hsz := joinB_size (L.take k) fun p hp => (name_size (HS.out.1 p (List.mem_of_mem_take hp))).2
      have hln : (L.take k).length ≤ 64 := by rw [List.length_take]; omega
      have hz1 := (name_size (HS.out.1 _ (List.getElem_mem hlt))).2
      have h43 : (ByteArray.mk #[43]).size = 1 := rfl
      have HK : Hid (joinB (L.take (k + 1)) = if k = 0 then ByteArray.mk #[] ++ L[k] else joinB (L.take k) ++ ByteArray.mk #[43] ++ L[k]) := by
        rw [Hid, List.take_succ_eq_append_getElem hlt]
        by_cases e : k = 0
        · subst e
          rw [if_pos rfl]
          exact (ByteArray.empty_append (b := L[0])).symm
        · rw [if_neg e]
          exact joinB_snoc _ _ (fun h => by
            rcases List.take_eq_nil_iff.1 h with h | h
            · exact e h
            · rw [h] at hlt; simp at hlt)
      generalize L[k] = z at hcc hz1 HK
      by_cases hk0 : k = 0
      · rw [if_pos hk0] at HK
        subst hk0
        have e0 : joinB (L.take 0) = ByteArray.mk #[] := rfl
        rw [e0]
        rw [Nat.add_zero] at hcc
        clear hsz hln e0
        go_wp2
        go_round
        case rel => exact ⟨1, by omega, by go_num, by rw [HK.out]⟩
        case measure => simp [intOf]; omega
      · rw [if_neg hk0] at HK
        generalize joinB (L.take k) = T at *
        have hT : T.size ≤ 3000 := by omega
        have hk1 : 0 < k := by omega
        go_wp2
        go_round
        case rel => exact ⟨k + 1, by omega, by go_num, by rw [HK.out]⟩
        case measure => simp [intOf]; omega
    · have hkk : k = L.length := by omega
      subst hkk
      rw [List.take_length]
      go_wp2
      go_ret2
      exact ⟨by rw [HX.out]; rfl, hb1⟩

end Go.Proofs.YtepngkhepcjdfaaDoor
