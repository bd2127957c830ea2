/- The plain side: whether a number is in a set, the numbers, the least one from a bound on, by contract. -/
import Derived.Test.YtkfbgadcfinlfaaDoorBitBack
import Derived.Laws.AppendOwnNone
namespace Go.Proofs.YtkfbgadcfinlfaaDoor
open Go.RowKit

set_option maxHeartbeats 400000 in
theorem RefHas_any (A : Option Addr) (zs : List Int) (ln c : Nat) (n : Int) (w : World) (hln : zs.length = ln) (hA : Rd (Value.int .u64) w w.heap.size A zs) (hw : Words zs) :
    Calls Tryd.prog 10 #[.slice A ln c, .int .i64 n] w fun e w' => e = .returned (.bool (hasB zs n)) ∧ w = w' := by
  subst hln
  by_cases h1 : n < 0
  · have HH := Lib.hid (show hasB zs n = false from by unfold hasB; rw [decide_eq_false (by omega)]; rfl)
    go_enter Tryd.func10, Tryd.ntmps10
    go_wp2
    go_ret
    exact ⟨by rw [HH.out]; rfl, rfl⟩
  · have g1 : 0 ≤ n := by omega
    clear h1
    by_cases h2 : 4096 ≤ n
    · have HH := Lib.hid (show hasB zs n = false from by unfold hasB; rw [decide_eq_false (by omega : ¬ n < 4096), Bool.and_false]; rfl)
      go_enter Tryd.func10, Tryd.ntmps10
      go_wp2
      go_ret
      exact ⟨by rw [HH.out]; rfl, rfl⟩
    · have g2 : n < 4096 := by omega
      clear h2
      by_cases hlt : (n / 64).toNat < zs.length
      · have hg := hw.getD (n / 64).toNat
        have HH := Lib.hid (show (bits .and .u64 (zs.getD (n / 64).toNat 0 / 2 ^ (n % 64).toNat) 1 == 1) = hasB zs n from by
          have hd := div_pow_le (zs.getD (n / 64).toNat 0) (n % 64).toNat hg.1
          rw [bits_and_one _ hd.1 (by omega)]
          unfold hasB
          rw [decide_eq_true g1, decide_eq_true g2]
          rfl)
        have e : zs.getD (n / 64).toNat 0 = zs[(n / 64).toNat] := by rw [List.getD_eq_getElem?_getD, List.getElem?_eq_getElem hlt]; rfl
        rw [e] at HH hg
        obtain ⟨b, off, rfl, hb, hc⟩ := hA.at_ hlt
        have hlt' : n / 64 < (zs.length : Int) := by omega
        generalize zs[(n / 64).toNat] = x at *
        obtain ⟨x0, x1⟩ := hg
        clear e
        go_enter Tryd.func10, Tryd.ntmps10
        go_wp2
        go_ret
        exact ⟨ret_bool HH.out, rfl⟩
      · have hge : (zs.length : Int) ≤ n / 64 := by omega
        have HH := Lib.hid (show hasB zs n = false from by
          unfold hasB
          rw [List.getD_eq_getElem?_getD, List.getElem?_eq_none (by omega)]
          simp)
        clear hlt
        go_enter Tryd.func10, Tryd.ntmps10
        go_wp2
        go_ret
        exact ⟨by rw [HH.out]; rfl, rfl⟩

/-- The numbers of the words come back in new memory, the call's own. -/
def RefNumsOut (zs : List Int) (w : World) (e : Ending) (w' : World) : Prop :=
  ∃ (L : List Int) (A : Option Addr) (c : Nat), e = .returned (.slice A L.length c) ∧ w'.ownsRow w.heap.size 3 1 (.slice A L.length c) L.length (L.map (Value.int .i64)) ∧ Nums zs L ∧ Below w.heap.size w w'

set_option maxRecDepth 100000 in
set_option maxHeartbeats 2000000 in
theorem RefList_any (A : Option Addr) (zs : List Int) (c : Nat) (w : World) (hA : Rd (Value.int .u64) w w.heap.size A zs) (hw : Words zs) :
    Calls Tryd.prog 16 #[.slice A zs.length c] w (RefNumsOut zs w) := by
  obtain ⟨i0, hi0, hz0, hz1, hz2⟩ := info_parts info_num
  have HW := Lib.hid hw
  have hall := Lib.hid (fun (L : List Int) (b : Int) (h : Part zs b L) (hb : ((zs.take 64).length : Int) * 64 ≤ b) => h.all hb)
  clear hw
  go_enter Tryd.func16, Tryd.ntmps16
  go_wp2
  go_loopw [3, 4] (fun v i wr => ∃ (k : Nat) (L : List Int), k ≤ 4096 ∧ i = .int .i64 k ∧ wr.ownsRow w.heap.size 3 1 v L.length (L.map (Value.int .i64)) ∧ Hid (Part zs (k : Int) L) ∧ Below w.heap.size w wr)
    (fun _ i _ => 4096 - (intOf i).toNat)
  case atStart => exact ⟨0, [], Nat.zero_le _, rfl, World.ownsRow_nil _ _ _ _, Part.start zs, Below.refl _ _⟩
  case round =>
    obtain ⟨k, L, hk, rfl, hown, HP, hbel⟩ := hrel
    by_cases hlt : k < 4096
    · have hkl : (k : Int) < 4096 := by omega
      by_cases hin : (k : Int) / 64 < (zs.length : Int)
      · have hpl := HP.out.len
        have hb1 := hbel.size
        have hh := Lib.hid (RefHas_any A zs zs.length c (k : Int) wr rfl ((hA.below hbel).more hbel.size) HW.out)
        by_cases hm : hasB zs (k : Int) = true
        · have HS := Lib.hid (HP.out.step (Int.le_refl _) hm (fun j h1 h2 => by omega))
          have hmH := Lib.hid hm
          clear hm
          go_wp2_with fail
          refine hh.out.mono ?_
          rintro e w1 ⟨rfl, rfl⟩
          rw [hmH.out]
          clear hh
          go_wp2_with (at_builtin; refine wpList_append_own _ rfl _ _ 23 rfl w.heap.size 3 i0 (.int .i64 0) 1 8 Tryd.underlying23 hi0 hz0 hz1 hz2 rfl (by decide) _ _ _ rfl (hown.alloc _) ⟨wr.heap.size, 0, none⟩ 1 1 [.int .i64 (k : Int)] rfl rfl ?c1 ?c2 ?c3 ?c4 ?c5 ?_)
          case c1 =>
            intro j u hj
            match j, hj with
            | 0, hj => simp at hj; subst hj; simp [Addr.add]
          case c2 => intro u hu; simp at hu; subst hu; rfl
          case c3 => unfold maxLen; omega
          case c4 => omega
          case c5 => simp; omega
          intro v' w2 hown2 hgrow _
          have hB := own_base (hown.alloc (.cells #[.int .i64 (k : Int)] 3)) (hbel.alloc hb1 _) (Nat.le_refl _) (by simp; omega) hgrow
          clear hgrow hown
          go_wp2
          go_roundw
          case rel => exact ⟨k + 1, L ++ [(k : Int)], by omega, by go_num, by simpa using hown2, HS.out, hB⟩
          case measure => simp [intOf]; omega
        · simp only [Bool.not_eq_true] at hm
          have HS := Lib.hid (HP.out.skip (b' := ((k + 1 : Nat) : Int)) (by omega) (fun j h1 h2 => by rw [show j = (k : Int) from by omega]; exact hm))
          have hmH := Lib.hid hm
          clear hm
          go_wp2_with fail
          refine hh.out.mono ?_
          rintro e w1 ⟨rfl, rfl⟩
          rw [hmH.out]
          clear hh
          go_wp2
          go_roundw
          case rel => exact ⟨k + 1, L, by omega, by go_num, hown, HS.out, hbel⟩
          case measure => simp [intOf]; omega
      · have hge : (zs.length : Int) ≤ (k : Int) / 64 := by omega
        clear hin
        go_wp2
        go_ret
        obtain ⟨A', c', rfl, _, _⟩ := own_slice hown
        exact ⟨L, A', c', rfl, hown, hall.out L _ HP.out (by rw [List.length_take]; omega), hbel⟩
    · have hge : 4096 ≤ (k : Int) := by omega
      clear hlt
      go_wp2
      go_ret
      obtain ⟨A', c', rfl, _, _⟩ := own_slice hown
      exact ⟨L, A', c', rfl, hown, hall.out L _ HP.out (by rw [List.length_take]; omega), hbel⟩

/-- What the plain Next answers: the least number from n on, or none; the memory may have grown. -/
def RefNextOut (zs : List Int) (n : Int) (w : World) (e : Ending) (w' : World) : Prop :=
  Below w.heap.size w w' ∧ ((∃ m : Int, e = .returned (.tuple #[.int .i64 m, .bool true]) ∧ hasB zs m = true ∧ n ≤ m ∧ ∀ j, n ≤ j → j < m → hasB zs j = false) ∨
    (e = .returned (.tuple #[.int .i64 0, .bool false]) ∧ ∀ j, n ≤ j → hasB zs j = false))

theorem not_mem_has {zs L : List Int} (h : Nums zs L) {j : Int} (hn : j ∉ L) : hasB zs j = false := by
  cases hb : hasB zs j with
  | false => rfl
  | true => exact (hn ((h.2 j).2 hb)).elim

theorem least_at {zs L : List Int} (h : Nums zs L) (k : Nat) (hk : k < L.length) (n : Int) (ht : ∀ j ∈ L.take k, j < n) : hasB zs L[k] = true ∧ ∀ j, n ≤ j → j < L[k] → hasB zs j = false := by
  refine ⟨(h.2 _).1 (List.getElem_mem hk), fun j h1 h2 => not_mem_has h (fun hj => ?_)⟩
  rw [← List.take_append_drop k L, List.mem_append, List.drop_eq_getElem_cons hk, List.mem_cons] at hj
  have hp := h.1
  rw [← List.take_append_drop k L, List.pairwise_append, List.drop_eq_getElem_cons hk, List.pairwise_cons] at hp
  rcases hj with hj | rfl | hj
  · have := ht j hj; omega
  · omega
  · have := hp.2.1.1 j hj; omega

theorem take_below {L : List Int} (k : Nat) (hk : k < L.length) (n : Int) (ht : ∀ j ∈ L.take k, j < n) (hx : L[k] < n) : ∀ j ∈ L.take (k + 1), j < n := by
  intro j hj
  rw [List.take_succ_eq_append_getElem hk, List.mem_append, List.mem_singleton] at hj
  rcases hj with hj | rfl
  · exact ht j hj
  · exact hx

set_option maxHeartbeats 2000000 in
theorem RefNext_any (A : Option Addr) (zs : List Int) (c : Nat) (n : Int) (w : World) (hA : Rd (Value.int .u64) w w.heap.size A zs) (hw : Words zs) :
    Calls Tryd.prog 8 #[.slice A zs.length c, .int .i64 n] w (RefNextOut zs n w) := by
  have hl := Lib.hid (RefList_any A zs c w hA hw)
  clear hA hw
  go_enter Tryd.func8, Tryd.ntmps8
  go_wp2_with fail
  refine hl.out.mono ?_
  rintro e w1 ⟨L, LA, lc, rfl, hown, hnl, hbel⟩
  have hrd : Rd (Value.int .i64) w1 w1.heap.size LA L := Rd.of_own hown
  have HN := Lib.hid hnl
  have hLn := hnl.len
  clear hl hown hnl
  go_wp2
  go_loop [11] (fun i => ∃ k : Nat, k ≤ L.length ∧ i = .int .i64 k ∧ Hid (∀ j ∈ L.take k, j < n)) (fun i => L.length - (intOf i).toNat)
  case atStart => exact ⟨0, Nat.zero_le _, rfl, by intro j hj; simp at hj⟩
  case round =>
    obtain ⟨k, hk, rfl, HT⟩ := hrel
    by_cases hlt : k < L.length
    · obtain ⟨b, off, rfl, hb, hcell⟩ := hrd.at_ hlt
      have hkl : (k : Int) < (L.length : Int) := by omega
      have hlo := Lib.hid (least_at HN.out k hlt n HT.out)
      have hup := Lib.hid (take_below k hlt n HT.out)
      generalize L[k] = x at hcell hlo hup
      by_cases hx : n ≤ x
      · go_wp2
        go_ret2
        exact ⟨hbel, .inl ⟨x, rfl, hlo.out.1, hx, hlo.out.2⟩⟩
      · have hx' : x < n := by omega
        clear hx
        go_wp2
        go_round
        case rel => exact ⟨k + 1, by omega, by go_num, hup.out hx'⟩
        case measure => simp [intOf]; omega
    · go_wp2
      go_ret2
      refine ⟨hbel, .inr ⟨rfl, fun j hj => not_mem_has HN.out (fun hm => ?_)⟩⟩
      have := HT.out j (by rw [List.take_of_length_le (by omega)]; exact hm)
      omega

end Go.Proofs.YtkfbgadcfinlfaaDoor
