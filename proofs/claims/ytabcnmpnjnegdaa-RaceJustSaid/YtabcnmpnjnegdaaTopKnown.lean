/- What is known behind a load, and behind the next store (TopKnown), walked. -/
import Derived.Test.YtabcnmpnjnegdaaRacTop
namespace Go.Proofs.Ytabcnmpnjnegdaa
open Go.RowKit

/-- No number is above c. -/
def bdA (a : AX) (c : Int) : Prop := (∀ k, IsNum (a.N k) ∧ ∀ j, (a.N k).getD j 0 ≤ c) ∧ ∀ p, IsNum (a.pn p) ∧ ∀ j, (a.pn p).getD j 0 ≤ c
theorem zeroN_at (j : Nat) : zeroN.getD j 0 = 0 := by
  rw [zeroN, List.getD_eq_getElem?_getD, List.getElem?_replicate]
  split <;> rfl
theorem tick_at {N : List Int} (h : IsNum N) (k : Nat) (j : Nat) : N.getD j 0 ≤ (tickN N k).getD j 0 ∧ (tickN N k).getD j 0 ≤ N.getD j 0 + 1 := by
  unfold tickN
  split
  · rename_i hc
    rw [Int.toNat_natCast, set_getD _ _ _ _ (by rw [h.1]; omega)]
    by_cases e : k = j
    · subst e
      rw [if_pos rfl]
      omega
    · rw [if_neg e]
      omega
  · omega
theorem tick_self {N : List Int} (h : IsNum N) {k : Nat} (hk : k < 65) (hs : N.getD k 0 < 4611686018427387904) : (tickN N k).getD k 0 = N.getD k 0 + 1 := by
  rw [tickN, Int.toNat_natCast, if_pos ⟨by omega, hs⟩, set_getD _ _ _ _ (by rw [h.1]; exact hk), if_pos rfl]
theorem join_at {M N : List Int} (hM : IsNum M) (hN : IsNum N) (j : Nat) : (joinN M N).getD j 0 = max (M.getD j 0) (N.getD j 0) := by
  rcases Nat.lt_or_ge j 65 with h | h
  · exact joinN_at _ _ h
  · rw [(joinN_num hM).out h, hM.out h, hN.out h]
    rfl
theorem bd_new : bdA newA 1 := by
  refine ⟨fun k => ?_, fun p => ⟨zeroN_num, fun j => by show zeroN.getD j 0 ≤ 1; rw [zeroN_at]; decide⟩⟩
  show IsNum (if k < 65 then tickN zeroN k else zeroN) ∧ ∀ j, (if k < 65 then tickN zeroN k else zeroN).getD j 0 ≤ 1
  split
  · exact ⟨tickN_num zeroN_num _, fun j => by have := (tick_at zeroN_num k j).2; rw [zeroN_at] at this; omega⟩
  · exact ⟨zeroN_num, fun j => by rw [zeroN_at]; decide⟩
theorem bd_load {a : AX} {c : Int} (h : bdA a c) (k : Nat) (p : Int) : bdA (loadA a k p) c := by
  refine ⟨fun j => ?_, h.2⟩
  show IsNum (updN a.N k (joinN (a.N k) (a.pn p)) j) ∧ ∀ i, (updN a.N k (joinN (a.N k) (a.pn p)) j).getD i 0 ≤ c
  unfold updN
  by_cases e : j = k
  · rw [if_pos e]
    exact ⟨joinN_num (h.1 k).1, fun i => by rw [join_at (h.1 k).1 (h.2 p).1]; have := (h.1 k).2 i; have := (h.2 p).2 i; omega⟩
  · rw [if_neg e]
    exact h.1 j
theorem bd_store {a : AX} {c : Int} (h : bdA a c) (k : Nat) (p : Int) : bdA (storeA a k p) (c + 1) := by
  refine ⟨fun j => ?_, fun q => ?_⟩
  · show IsNum (updN a.N k (tickN (a.N k) k) j) ∧ ∀ i, (updN a.N k (tickN (a.N k) k) j).getD i 0 ≤ c + 1
    unfold updN
    by_cases e : j = k
    · rw [if_pos e]
      exact ⟨tickN_num (h.1 k).1 _, fun i => by have := (tick_at (h.1 k).1 k i).2; have := (h.1 k).2 i; omega⟩
    · rw [if_neg e]
      exact ⟨(h.1 j).1, fun i => by have := (h.1 j).2 i; omega⟩
  · show IsNum (updI a.pn p (a.N k) q) ∧ ∀ i, (updI a.pn p (a.N k) q).getD i 0 ≤ c + 1
    unfold updI
    by_cases e : q = p
    · rw [if_pos e]
      exact ⟨(h.1 k).1, fun i => by have := (h.1 k).2 i; omega⟩
    · rw [if_neg e]
      exact ⟨(h.2 q).1, fun i => by have := (h.2 q).2 i; omega⟩
theorem store_self {a : AX} {c : Int} (h : bdA a c) (hc : c < 1000) {k : Nat} (hk : k < 65) (p : Int) : ((storeA a k p).N k).getD k 0 = (a.N k).getD k 0 + 1 := by
  show (updN a.N k (tickN (a.N k) k) k).getD k 0 = _
  rw [updN, if_pos rfl]
  exact tick_self (h.1 k).1 hk (by have := (h.1 k).2 k; omega)
theorem store_other {a : AX} {k j : Nat} (hne : j ≠ k) (p : Int) : (storeA a k p).N j = a.N j := if_neg hne
theorem load_more {a : AX} {c : Int} (h : bdA a c) (k j : Nat) (p : Int) (i : Nat) : (a.N j).getD i 0 ≤ ((loadA a k p).N j).getD i 0 := by
  show _ ≤ (updN a.N k (joinN (a.N k) (a.pn p)) j).getD i 0
  unfold updN
  by_cases e : j = k
  · rw [if_pos e, e, join_at (h.1 k).1 (h.2 p).1]
    omega
  · rw [if_neg e]
    exact Int.le_refl _
theorem store_more {a : AX} {c : Int} (h : bdA a c) (k j : Nat) (p : Int) (i : Nat) : (a.N j).getD i 0 ≤ ((storeA a k p).N j).getD i 0 := by
  show _ ≤ (updN a.N k (tickN (a.N k) k) j).getD i 0
  unfold updN
  by_cases e : j = k
  · rw [if_pos e, e]
    exact (tick_at (h.1 k).1 k i).1
  · rw [if_neg e]
    exact Int.le_refl _
/-- Behind a load of what another one stored nothing is less than that one knew. -/
theorem known_up {s : AX} {c : Int} (h : bdA s c) (i j : Nat) (p : Int) : leN (s.N i) ((loadA (storeA s i p) j p).N j) = true := by
  have hb := bd_store h i p
  refine (leN_iff ((bd_load hb j p).1 j).1.1).2 fun q hq => ?_
  show _ ≤ (updN (storeA s i p).N j (joinN ((storeA s i p).N j) ((storeA s i p).pn p)) j).getD q 0
  rw [updN, if_pos rfl, join_at (hb.1 j).1 (hb.2 p).1]
  have : (storeA s i p).pn p = s.N i := if_pos rfl
  rw [this]
  omega

set_option maxRecDepth 100000 in
set_option maxHeartbeats 8000000 in
theorem TopKnown_walk (a b place other n : Int) (w : World) (ha : IsI a) (hb : IsI b) (hp : IsI place) (ho : IsI other) (hn : 0 ≤ n ∧ n ≤ 255) :
    Calls Try.prog 8 #[.int .i64 a, .int .i64 b, .int .i64 place, .int .i64 other, .int .u8 n] w fun e w' => e = .returned (.bool true) ∧ Below w.heap.size w w' := by
  by_cases hbad : a < 0 ∨ 64 < a ∨ b < 0 ∨ 64 < b
  · have hcs : a < 0 ∨ ((0 ≤ a ∧ 64 < a) ∨ ((0 ≤ a ∧ a ≤ 64) ∧ (b < 0 ∨ (0 ≤ b ∧ 64 < b)))) := by omega
    clear hbad
    rcases hcs with h1 | ⟨h1, h2⟩ | ⟨⟨h1, h2⟩, h3 | ⟨h3, h4⟩⟩
    all_goals
      go_enter Try.func8, Try.ntmps8
      go_wp2_with fail
      refine (begins9_any _).mono ?_
      rintro e w1 ⟨rfl, hb1⟩
      go_wp2
      go_ret
      exact ⟨rfl, hb1⟩
  · obtain ⟨i, rfl⟩ : ∃ i : Nat, a = (i : Int) := ⟨a.toNat, by omega⟩
    obtain ⟨j, rfl⟩ : ∃ j : Nat, b = (j : Int) := ⟨b.toNat, by omega⟩
    have hi : i < 65 := by omega
    have hj : j < 65 := by omega
    have hi0 : (0 : Int) ≤ (i : Int) := by omega
    have hi1 : (i : Int) ≤ 64 := by omega
    have hj0 : (0 : Int) ≤ (j : Int) := by omega
    have hj1 : (j : Int) ≤ 64 := by omega
    obtain ⟨m, hm, hm8⟩ : ∃ m : Nat, n.tmod 9 = (m : Int) ∧ m ≤ 8 := ⟨(n.tmod 9).toNat, by
      have h1 := Int.tmod_nonneg 9 hn.1
      have h2 := Int.tmod_lt_of_pos n (show (0 : Int) < 9 by decide)
      omega⟩
    clear hbad
    go_enter Try.func8, Try.ntmps8
    go_wp2_with fail
    refine (begins9_any _).mono ?_
    rintro e w1 ⟨rfl, hb1⟩
    have HB1 := Lib.hid hb1
    clear hb1
    go_wp2_with fail
    refine (New_w1 w1).mono ?_
    rintro e w2 ⟨B, rfl, h2⟩
    have H2 := Lib.hid h2
    clear h2
    have hN0 : (newA.N i).getD i 0 = 1 := by
      show (if i < 65 then tickN zeroN i else zeroN).getD i 0 = 1
      rw [if_pos hi, tick_self zeroN_num hi (by rw [zeroN_at]; decide), zeroN_at]
      rfl
    have HN0 := Lib.hid hN0
    clear hN0
    go_wp2
    go_loopw [36] (fun v wr => ∃ (q : Nat) (s : AX), q ≤ m ∧ v = .int .u8 q ∧ W1 w1 q B s [] wr ∧ Hid (bdA s ((q : Int) + 1) ∧ (s.N i).getD i 0 = (q : Int) + 1)) (fun v _ => m - (intOf v).toNat)
    case atStart => exact ⟨0, newA, Nat.zero_le _, rfl, H2.out, bd_new, HN0.out⟩
    case round =>
      obtain ⟨q, s, hq, rfl, hW, HS⟩ := hrel
      by_cases hlt : q < m
      · have HST := Lib.hid (Store_w1 hW (by omega) i hi other ho)
        have HS2 : Hid (bdA (storeA s i other) (((q + 1 : Nat) : Int) + 1) ∧ ((storeA s i other).N i).getD i 0 = ((q + 1 : Nat) : Int) + 1) := by
          have h1 := bd_store HS.out.1 i other
          have h2 := store_self HS.out.1 (by omega) hi other
          rw [HS.out.2] at h2
          exact ⟨by rw [show ((q + 1 : Nat) : Int) + 1 = (q : Int) + 1 + 1 by omega]; exact h1, by rw [h2]; omega⟩
        have hqm : (q : Int) < (m : Int) := by omega
        have hw8 : IntKind.u8.wrap ((q : Int) + 1) = (q : Int) + 1 := by
          rw [Go.IntKind.wrap_u8]; omega
        clear hW
        go_wp2_with fail
        refine HST.out.mono ?_
        rintro e w3 ⟨rfl, h3⟩
        have H3 := Lib.hid h3
        clear h3 HST
        go_wp2
        go_roundw
        case rel => exact ⟨q + 1, _, by omega, by go_num, H3.out, HS2.out⟩
        case measure => simp [intOf]; omega
      · obtain rfl : q = m := by omega
        have HC := Lib.hid (Clock_w1 hW i hi)
        clear hW H2 HN0
        go_wp2_with fail
        refine HC.out.mono ?_
        rintro e w3 ⟨A1, l1, c1, rfl, h3⟩
        have H3 := Lib.hid (Store_w1 h3 (by omega) i hi place hp)
        clear h3 HC
        go_wp2_with fail
        refine H3.out.mono ?_
        rintro e w4 ⟨rfl, h4⟩
        have H4 := Lib.hid (Load_w1 h4 j hj place hp)
        clear h4 H3
        go_wp2_with fail
        refine H4.out.mono ?_
        rintro e w5 ⟨rfl, h5⟩
        have hup := known_up HS.out.1 i j place
        have hbd := bd_load (bd_store HS.out.1 i place) j place
        have hself : (q : Int) + 2 ≤ ((loadA (storeA s i place) j place).N i).getD i 0 := by
          have h1 := store_self HS.out.1 (by omega) hi place
          have h2 := load_more (bd_store HS.out.1 i place) j i place i
          rw [HS.out.2] at h1
          omega
        generalize hW : s.N i = W at *
        generalize loadA (storeA s i place) j place = t at *
        have H5 := Lib.hid (Clock_w1 h5 j hj)
        have hcm : cmpN W (t.N j) = -1 ∨ cmpN W (t.N j) = 0 := (cmpN_up (hbd.1 j).1.1).2 hup
        obtain ⟨r1, hr1⟩ : ∃ r, cmpN W (t.N j) = r := ⟨_, rfl⟩
        have HR1 := Lib.hid hr1
        rw [hr1] at hcm
        have HBD := Lib.hid hbd
        have HSE := Lib.hid hself
        clear hup hbd hself hr1 H4 HS h5 hW
        go_wp2_with fail
        refine H5.out.mono ?_
        rintro e w6 ⟨A2, l2, c2, rfl, h6⟩
        have H6 := Lib.hid (Compare_w1 h6 (A := A1) (C := A2) (M := W) (N := t.N j) (.tail _ (.head _)) (.head _))
        rw [HR1.out] at H6
        clear h6 H5
        go_wp2_with fail
        refine H6.out.mono ?_
        rintro e w7 ⟨rfl, h7⟩
        have H7 := Lib.hid (Clock_w1 h7 j hj)
        clear h7 H6
        go_wp2_with fail
        refine H7.out.mono ?_
        rintro e w8 ⟨A3, l3, c3, rfl, h8⟩
        have H8 := Lib.hid (Store_w1 (h8.less (ls := [(.slice A3 l3 c3, t.N j)]) (fun p hp => by rw [List.mem_singleton] at hp; rw [hp]; exact .head _)) (by omega) j hj other ho)
        clear h8 H7
        go_wp2_with fail
        refine H8.out.mono ?_
        rintro e w9 ⟨rfl, h9⟩
        have H9 := Lib.hid (Clock_w1 h9 j hj)
        have hcm2 : cmpN (t.N j) ((storeA t j other).N j) = -1 := by
          have : (storeA t j other).N j = tickN (t.N j) j := if_pos rfl
          rw [this]
          exact (tick_cmp (HBD.out.1 j).1 j ⟨by omega, by rw [Int.toNat_natCast]; have := (HBD.out.1 j).2 j; omega⟩).1
        have HCM2 := Lib.hid hcm2
        have HSE2 : Hid ((q : Int) + 2 ≤ ((storeA t j other).N i).getD i 0) := Lib.hid (Int.le_trans HSE.out (store_more HBD.out j i other i))
        clear h9 H8 hcm2 HSE
        rcases hcm with rfl | rfl
        all_goals
          go_wp2_with fail
          refine H9.out.mono ?_
          rintro e w10 ⟨A4, l4, c4, rfl, h10⟩
          have H10 := Lib.hid (Compare_w1 h10 (A := A3) (C := A4) (M := t.N j) (N := (storeA t j other).N j) (.tail _ (.head _)) (.head _))
          rw [HCM2.out] at H10
          clear h10
          go_wp2_with fail
          refine H10.out.mono ?_
          rintro e w11 ⟨rfl, h11⟩
          have H11 := Lib.hid (Clock_w1 h11 i hi)
          clear h11 H10
          go_wp2_with fail
          refine H11.out.mono ?_
          rintro e w12 ⟨A5, l5, c5, rfl, h12⟩
          have H12 := Lib.hid (At_w1 h12 (A := A5) (M := (storeA t j other).N i) (.head _) (i : Int))
          rw [atM_nat _ hi] at H12
          have HBW := Lib.hid (Below.next HB1.out h12.below)
          clear h12 H11
          obtain ⟨z, hz⟩ : ∃ z, ((storeA t j other).N i).getD i 0 = z := ⟨_, rfl⟩
          rw [hz] at H12
          have hzz := HSE2.out
          rw [hz] at hzz
          clear hz
          have hwa : IntKind.i64.wrap ((q : Int) + 2) = (q : Int) + 2 := IntWalk.i64_in _ (by omega)
          have hwb : IntKind.i64.wrap (q : Int) = (q : Int) := IntWalk.i64_in _ (by omega)
          go_wp2_with fail
          refine H12.out.mono ?_
          rintro e w' ⟨rfl, rfl⟩
          go_wp2
          go_ret
          exact ⟨ret_bool (by simp), HBW.out⟩

end Go.Proofs.Ytabcnmpnjnegdaa
