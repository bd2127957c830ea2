/- The document's table of mutexes (ganglionref19), by contract: Held, Ring. -/
import Derived.Test.YtdgmcaehadigaaaRefLck
namespace Go.Proofs.Ytdgmcaehadigaaa
open Go.RowKit

theorem RHolder_at {w W : World} {A1 A2 : Option Addr} {L : List PrT} {l1 c1 l2 c2 : Nat} {b : Bool} (h : RdP2 w w.heap.size A1 L) (hb : Below w.heap.size w W) (hl : L.length = l1) (few : l1 ≤ 100000) (n : Int) :
    Calls Try.prog 28 #[.agg #[.slice A1 l1 c1, .slice A2 l2 c2, .bool b], .int .i64 n] W fun e w' => e = .returned (.tuple #[.int .i64 (gotI (hold L n)), .bool (gotB (hold L n))]) ∧ Below W.heap.size W w' := RHolder_any (h.later hb) hl few n
theorem RWaits_at {w W : World} {A1 A2 : Option Addr} {L : List PrT} {l1 c1 l2 c2 : Nat} {b : Bool} (h : RdP2 w w.heap.size A2 L) (hb : Below w.heap.size w W) (hl : L.length = l2) (few : l2 ≤ 100000) (n : Int) :
    Calls Try.prog 30 #[.agg #[.slice A1 l1 c1, .slice A2 l2 c2, .bool b], .int .i64 n] W fun e w' => e = .returned (.tuple #[.int .i64 (gotI (waitOf L n)), .bool (gotB (waitOf L n))]) ∧ Below W.heap.size W w' := RWaits_any (h.later hb) hl few n
set_option maxRecDepth 100000 in
set_option maxHeartbeats 4000000 in
theorem RHeld_any {w : World} {A1 A2 : Option Addr} {L : List PrT} {l1 c1 l2 c2 : Nat} {b : Bool} (h : RdP2 w w.heap.size A1 L) (hl : L.length = l1) (few : l1 ≤ 100000) (v : Int) :
    Calls Try.prog 35 #[tV A1 l1 c1 A2 l2 c2 b, .int .i64 v] w (IntsNew (heldL L v) w) := by
  obtain ⟨i0, hi0, hz0, hz1, hz2⟩ := info_parts info_int
  have HH := Lib.hid (fun W hb n => RHolder_at (c1 := c1) (A2 := A2) (l2 := l2) (c2 := c2) (b := b) (W := W) h hb hl few n)
  have HB := Lib.hid (below_new w (.cells #[.slice A1 l1 c1, .slice A2 l2 c2, .bool b] 49))
  have HQ := Lib.hid (Bx.new w [.slice A1 l1 c1, .slice A2 l2 c2, .bool b] 49)
  have HS := Lib.hid (fun k => heldTo_succ L v k)
  have HLN := Lib.hid (fun k => heldTo_len L v k)
  have H0 : Hid (heldTo L v 0 = []) := Lib.hid rfl
  have HE : Hid (heldL L v = heldTo L v 4097) := Lib.hid rfl
  clear h hl few
  unfold tV
  go_enter Try.func35, Try.ntmps35
  go_wp2
  obtain ⟨W0, hW0⟩ : ∃ W0, W0 = w.alloc (.cells #[.slice A1 l1 c1, .slice A2 l2 c2, .bool b] 49) := ⟨_, rfl⟩
  rw [← hW0] at HB ⊢
  simp only [List.toArray] at HQ
  have HQ0 : Hid (Bx W0 w.heap.size [.slice A1 l1 c1, .slice A2 l2 c2, .bool b]) := Lib.hid (by rw [hW0]; exact HQ.out)
  clear hW0 HQ
  go_loopw [5, 6] (fun s i wr => ∃ (k : Nat) (R : List Int), k ≤ 4097 ∧ i = .int .i64 (k : Int) ∧ Below w.heap.size w wr ∧ Below W0.heap.size W0 wr ∧ wr.ownsRow W0.heap.size 3 1 s R.length (R.map (Value.int .i64)) ∧ Hid (heldTo L v k = R)) (fun _ i _ => 4097 - (intOf i).toNat)
  case atStart => exact ⟨0, [], Nat.zero_le _, rfl, HB.out, Below.refl _ _, World.ownsRow_nil _ _ _ _, H0⟩
  case round =>
    obtain ⟨k, R, hk, rfl, hbel, hbel0, ho, HR⟩ := hrel
    have hln : R.length ≤ k := by have := HLN.out k; rw [HR.out] at this; exact this
    obtain ⟨A4, c4, rfl, _, _⟩ := ownSlice ho
    by_cases hlt : k < 4097
    · have hst := HS.out k
      rw [HR.out] at hst
      have hkl : (k : Int) ≤ 4096 := by omega
      have hC := HH.out wr hbel (k : Int)
      have hq := HQ0.out.below hbel0
      have x0 := hq.c 0 _ rfl
      have x1 := hq.c 1 _ rfl
      have x2 := hq.c 2 _ rfl
      have HC := Lib.hid hC
      have HO := Lib.hid ho
      have HB1 := Lib.hid hbel
      have HB2 := Lib.hid hbel0
      have HST := Lib.hid hst
      clear ho hbel hbel0 HR hC hq hst
      go_wp2_with fail
      refine HC.out.mono ?_
      rintro e w3 ⟨rfl, hb3⟩
      have HB3 := Lib.hid (Below.next HB1.out hb3)
      have HB4 := Lib.hid (Below.next HB2.out hb3)
      have HO3 := Lib.hid (ownsRow_same (w' := w3) HO.out (fun q hq => hb3.block q (HO.out.lt q hq).2))
      clear HC HO HB1 HB2 x0 x1 x2 hb3
      have hst := HST.out
      cases hh : hold L (k : Int) with
      | none =>
        rw [hh, if_neg (fun e => by cases e), List.append_nil] at hst
        have HN := Lib.hid hst
        clear hst HST hh
        simp only [gotI, gotB, Option.getD_none, Option.isSome_none]
        go_wp2
        go_roundw
        case rel => exact ⟨k + 1, R, by omega, by go_num, HB3.out, HB4.out, HO3.out, HN⟩
        case measure => simp [intOf]; omega
      | some u =>
        simp only [gotI, gotB, Option.getD_some, Option.isSome_some]
        by_cases e : u = v
        · rw [hh, if_pos (by rw [e])] at hst
          have HN := Lib.hid hst
          subst e
          clear hst HST hh
          go_wp2_with (at_builtin; refine wpList_append_lies _ rfl _ _ 38 rfl W0.heap.size 3 i0 (.int .i64 0) 1 8 Try.underlying38 hi0 hz0 hz1 hz2 rfl (by decide) _ R.length _ rfl (HO3.out.alloc _) ⟨w3.heap.size, 0, none⟩ 1 1 [.int .i64 (k : Int)] rfl rfl (World.news_of_block (cs := #[.int .i64 (k : Int)]) (t := 3) (fr := (0, 0)) (heap_alloc_last w3 _)) (by simp [Value.oneCell']) (by decide) (by unfold maxLen; omega) (by omega) (by rw [World.size_alloc]; have := HB4.out.size; omega) (w3.heap.size + 1) (by simp) ?_)
          intro g cp w4 hown hgr _ hglt
          have hsz := HB4.out.size
          have hsz0 := HB3.out.size
          have hb4 := Lib.hid ((HB4.out.alloc hsz (.cells #[.int .i64 (k : Int)] 3)).grown hgr (by rw [World.size_alloc]; omega) (fun q hq => (HO3.out.lt q hq).1))
          have hb5 := Lib.hid ((HB3.out.alloc hsz0 (.cells #[.int .i64 (k : Int)] 3)).grown hgr (by rw [World.size_alloc]; omega) (fun q hq => Nat.le_trans HB.out.size (HO3.out.lt q hq).1))
          have HO' := Lib.hid (show w4.ownsRow W0.heap.size 3 1 (.slice (some ⟨g, 0, none⟩) (R.length + 1) cp) (R ++ [(k : Int)]).length ((R ++ [(k : Int)]).map (Value.int .i64)) from by rw [List.map_append, List.length_append]; exact hown)
          clear hown hgr HO3
          go_wp2
          go_roundw
          case rel => exact ⟨k + 1, R ++ [(k : Int)], by omega, by go_num, hb5.out, hb4.out, HO'.out, HN⟩
          case measure => simp [intOf]; omega
        · rw [hh, if_neg (fun e2 => e (by injection e2)), List.append_nil] at hst
          have HN := Lib.hid hst
          clear hst HST hh
          go_wp2
          go_roundw
          case rel => exact ⟨k + 1, R, by omega, by go_num, HB3.out, HB4.out, HO3.out, HN⟩
          case measure => simp [intOf]; omega
    · obtain rfl : k = 4097 := by omega
      have HRR : Hid (heldL L v = R) := Lib.hid (by rw [HE.out, HR.out])
      have HO := Lib.hid ho
      have HB1 := Lib.hid hbel
      clear ho hbel hbel0
      go_wp2
      go_ret
      rw [HRR.out]
      exact IntsNew.of_own (ownsRow_less HO.out HB.out.size) HB1.out
/-- What a walk along the rings has come to: so far no way back. -/
theorem nx_no {x : LX} {a : Int} (h : gotB (waitOf x.ws a) = false ∨ gotB (hold x.hs (gotI (waitOf x.ws a))) = false) : nx x a = none := by
  unfold nx
  cases hw : waitOf x.ws a with
  | none => rfl
  | some n =>
    rw [hw] at h
    rcases h with h | h
    · cases h
    · show hold x.hs n = none
      cases hh : hold x.hs n with
      | none => rfl
      | some u =>
        simp only [gotI, Option.getD_some, hh, gotB, Option.isSome_some] at h
        cases h
theorem nx_yes {x : LX} {a u : Int} (h1 : gotB (waitOf x.ws a) = true) (h2 : hold x.hs (gotI (waitOf x.ws a)) = some u) : nx x a = some u := by
  unfold nx
  cases hw : waitOf x.ws a with
  | none => rw [hw] at h1; cases h1
  | some n =>
    rw [hw] at h2
    exact h2
theorem way_zero (x : LX) (w a : Int) (l : List Int) : way x w 0 a l = [] := rfl
theorem way_none {x : LX} {w a : Int} {k : Nat} {l : List Int} (h : nx x a = none) : way x w (k + 1) a l = [] := by
  rw [way, h]
theorem way_some {x : LX} {w a y : Int} {k : Nat} {l : List Int} (h : nx x a = some y) : way x w (k + 1) a l = if y = w then l ++ [a] else way x w k y (l ++ [a]) := by
  rw [way, h]
/-- A ring that is met is told. -/
theorem ring_met {x : LX} {k : Nat} {L : List Int} (hp : ringP x = ringFrom x (65 - k) k) (hk : k < 65) (h : ringAt x k = L) (hn : L ≠ []) : ringP x = L := by
  rw [hp, show 65 - k = (64 - k) + 1 by omega, ringFrom_step, if_neg (by rw [h]; exact hn), h]
theorem ring_on {x : LX} {k : Nat} (hp : ringP x = ringFrom x (65 - k) k) (hk : k < 65) (h : ringAt x k = []) : ringP x = ringFrom x (65 - (k + 1)) (k + 1) := by
  rw [hp, show 65 - k = (65 - (k + 1)) + 1 by omega, ringFrom_step, if_pos h]
set_option maxRecDepth 100000 in
set_option maxHeartbeats 4000000 in
theorem RRing_any {w : World} {x : LX} (hx : LFit x) {A1 A2 : Option Addr} {l1 c1 l2 c2 : Nat} {b : Bool} (h1 : RdP2 w w.heap.size A1 x.hs) (h2 : RdP2 w w.heap.size A2 x.ws) (hl1 : x.hs.length = l1) (hl2 : x.ws.length = l2) (few1 : l1 ≤ 100000) (few2 : l2 ≤ 100000) :
    Calls Try.prog 33 #[tV A1 l1 c1 A2 l2 c2 b] w (IntsNew (ringP x) w) := by
  obtain ⟨i0, hi0, hz0, hz1, hz2⟩ := info_parts info_int
  have HH := Lib.hid (fun W hb n => RHolder_at (c1 := c1) (A2 := A2) (l2 := l2) (c2 := c2) (b := b) (W := W) h1 hb hl1 few1 n)
  have HW := Lib.hid (fun W hb n => RWaits_at (c1 := c1) (A1 := A1) (l1 := l1) (c2 := c2) (b := b) (W := W) h2 hb hl2 few2 n)
  have HB := Lib.hid (below_new w (.cells #[.slice A1 l1 c1, .slice A2 l2 c2, .bool b] 49))
  have HQ := Lib.hid (Bx.new w [.slice A1 l1 c1, .slice A2 l2 c2, .bool b] 49)
  have HEN := Lib.hid (fun v hv => way_enough hx v hv)
  have HP0 : Hid (ringP x = ringFrom x (65 - 0) 0) := Lib.hid rfl
  clear h1 h2 hl1 hl2 few1 few2 hx
  unfold tV
  go_enter Try.func33, Try.ntmps33
  go_wp2
  obtain ⟨W0, hW0⟩ : ∃ W0, W0 = w.alloc (.cells #[.slice A1 l1 c1, .slice A2 l2 c2, .bool b] 49) := ⟨_, rfl⟩
  rw [← hW0] at HB ⊢
  simp only [List.toArray] at HQ
  have HQ0 : Hid (Bx W0 w.heap.size [.slice A1 l1 c1, .slice A2 l2 c2, .bool b]) := Lib.hid (by rw [hW0]; exact HQ.out)
  clear hW0 HQ
  go_loopw [3] (fun i wr => ∃ k : Nat, k ≤ 65 ∧ i = .int .i64 (k : Int) ∧ Below w.heap.size w wr ∧ Below W0.heap.size W0 wr ∧ Hid (ringP x = ringFrom x (65 - k) k)) (fun i _ => 65 - (intOf i).toNat)
  case atStart => exact ⟨0, Nat.zero_le _, rfl, HB.out, Below.refl _ _, HP0⟩
  case round =>
    obtain ⟨k, hk, rfl, hbel, hbel0, HP⟩ := hrel
    by_cases hlt : k < 65
    · have hkl : (k : Int) ≤ 64 := by omega
      have HB1 := Lib.hid hbel
      have HB2 := Lib.hid hbel0
      have H0 : Hid (way x k 66 k [] = ringAt x k) := Lib.hid (HEN.out (k : Int) ⟨by omega, by omega⟩)
      clear hbel hbel0
      go_wp2
      go_loopw [4, 5] (fun l a ws => ∃ (R : List Int) (z : Int), R.length ≤ 66 ∧ a = .int .i64 z ∧ Below w.heap.size w ws ∧ Below W0.heap.size W0 ws ∧ ws.ownsRow W0.heap.size 3 1 l R.length (R.map (Value.int .i64)) ∧ Hid (way x k (66 - R.length) z R = ringAt x k)) (fun l _ _ => 66 - lenOf l)
      case atStart => exact ⟨[], (k : Int), Nat.zero_le _, rfl, HB1.out, HB2.out, World.ownsRow_nil _ _ _ _, H0⟩
      case round =>
        clear HB1 HB2 H0
        obtain ⟨R, z, hR, rfl, hbel, hbel0, ho, HWY⟩ := hrel
        obtain ⟨A4, c4, rfl, _, _⟩ := ownSlice ho
        have HO := Lib.hid ho
        have HB1 := Lib.hid hbel
        have HB2 := Lib.hid hbel0
        clear ho hbel hbel0
        by_cases hr : R.length ≤ 65
        · have hri : (R.length : Int) ≤ 65 := by omega
          obtain ⟨f, hf⟩ : ∃ f, 66 - R.length = f + 1 := ⟨65 - R.length, by omega⟩
          have hwy := HWY.out
          rw [hf] at hwy
          have HWZ := Lib.hid hwy
          clear HWY hwy
          go_upto_region 8 with (at_builtin; refine wpList_append_lies _ rfl _ _ 38 rfl W0.heap.size 3 i0 (.int .i64 0) 1 8 Try.underlying38 hi0 hz0 hz1 hz2 rfl (by decide) _ R.length _ rfl (HO.out.alloc _) ⟨wr.heap.size, 0, none⟩ 1 1 [.int .i64 z] rfl rfl (World.news_of_block (cs := #[.int .i64 z]) (t := 3) (fr := (0, 0)) (heap_alloc_last wr _)) (by simp [Value.oneCell']) (by decide) (by unfold maxLen; omega) (by omega) (by rw [World.size_alloc]; have := HB2.out.size; omega) (wr.heap.size + 1) (by simp) ?_)
          intro g cp w4 hown hgr _ hglt
          have hsz := HB2.out.size
          have hsz0 := HB1.out.size
          have hb4 := ((HB2.out.alloc hsz (.cells #[.int .i64 z] 3)).grown hgr (by rw [World.size_alloc]; omega) (fun q hq => (HO.out.lt q hq).1))
          have hb5 := ((HB1.out.alloc hsz0 (.cells #[.int .i64 z] 3)).grown hgr (by rw [World.size_alloc]; omega) (fun q hq => Nat.le_trans HB.out.size (HO.out.lt q hq).1))
          have HO' := Lib.hid (show w4.ownsRow W0.heap.size 3 1 (.slice (some ⟨g, 0, none⟩) (R.length + 1) cp) (R ++ [z]).length ((R ++ [z]).map (Value.int .i64)) from by rw [List.map_append, List.length_append]; exact hown)
          have HC1 := Lib.hid (HW.out w4 hb5 z)
          have hq := HQ0.out.below hb4
          have x0 := hq.c 0 _ rfl
          have x1 := hq.c 1 _ rfl
          have x2 := hq.c 2 _ rfl
          have HB3 := Lib.hid hb4
          have HB5 := Lib.hid hb5
          clear hown hgr HO HB1 HB2 hb4 hb5 hq hsz hsz0
          go_wp2_with fail
          refine HC1.out.mono ?_
          rintro e w5 ⟨rfl, hb6⟩
          have HB6 := Lib.hid (Below.next HB3.out hb6)
          have HB7 := Lib.hid (Below.next HB5.out hb6)
          have HO5 := Lib.hid (ownsRow_same (w' := w5) HO'.out (fun q hq => hb6.block q (HO'.out.lt q hq).2))
          have hq := HQ0.out.below HB6.out
          clear HC1 x0 x1 x2 HB3 HB5 HO' hb6
          have x0 := hq.c 0 _ rfl
          have x1 := hq.c 1 _ rfl
          have x2 := hq.c 2 _ rfl
          have HC2 := Lib.hid (HH.out w5 HB7.out (gotI (waitOf x.ws z)))
          obtain ⟨n9, hn9⟩ : ∃ n9, gotI (waitOf x.ws z) = n9 := ⟨_, rfl⟩
          obtain ⟨b9, hb9⟩ : ∃ b9, gotB (waitOf x.ws z) = b9 := ⟨_, rfl⟩
          obtain ⟨o9, ho9⟩ : ∃ o9, hold x.hs n9 = o9 := ⟨_, rfl⟩
          have HNO := Lib.hid (fun h => nx_no (x := x) (a := z) h)
          have HYES := Lib.hid (fun u h h2 => nx_yes (x := x) (a := z) (u := u) h h2)
          rw [hn9] at HC2 HNO HYES ⊢
          rw [hb9] at HNO HYES ⊢
          rw [ho9] at HC2 HNO HYES
          clear hq hn9 hb9 ho9
          go_wp2_with fail
          refine HC2.out.mono ?_
          rintro e w6 ⟨rfl, hb8⟩
          have HB8 := Lib.hid (Below.next HB6.out hb8)
          have HB9 := Lib.hid (Below.next HB7.out hb8)
          have HO6 := Lib.hid (ownsRow_same (w' := w6) HO5.out (fun q hq => hb8.block q (HO5.out.lt q hq).2))
          clear HC2 x0 x1 x2 HB6 HB7 HO5 hb8
          have no : nx x z = none → Hid (ringP x = ringFrom x (65 - (k + 1)) (k + 1)) := fun h => Lib.hid (ring_on HP.out hlt (by rw [← HWZ.out, way_none h]))
          cases b9 with
          | false =>
            have HN := no (HNO.out (.inl rfl))
            clear no HNO HYES HWZ
            go_wp2
            go_roundw
            case rel => exact ⟨k + 1, by omega, by go_num, HB9.out, HB8.out, HN⟩
            case measure => simp [intOf]; omega
          | true =>
            cases o9 with
            | none =>
              have HN := no (HNO.out (.inr rfl))
              clear no HNO HYES HWZ
              simp only [gotI, gotB, Option.getD_none, Option.isSome_none]
              go_wp2
              go_roundw
              case rel => exact ⟨k + 1, by omega, by go_num, HB9.out, HB8.out, HN⟩
              case measure => simp [intOf]; omega
            | some u =>
              have hnx := HYES.out u rfl rfl
              have hwz := HWZ.out
              rw [way_some hnx] at hwz
              simp only [gotI, gotB, Option.getD_some, Option.isSome_some]
              by_cases e : u = (k : Int)
              · rw [if_pos e] at hwz
                have HL := Lib.hid (ring_met HP.out hlt hwz.symm (by simp))
                subst e
                clear no HNO HYES HWZ hwz hnx
                go_wp2
                go_ret
                rw [HL.out]
                refine IntsNew.of_own ?_ HB9.out
                have := ownsRow_less HO6.out HB.out.size
                rw [List.length_append] at this ⊢
                exact this
              · rw [if_neg e] at hwz
                have HN : Hid (way x k (66 - (R ++ [z]).length) u (R ++ [z]) = ringAt x k) := Lib.hid (by
                  rw [List.length_append, List.length_singleton, show 66 - (R.length + 1) = f by omega]
                  exact hwz)
                clear no HNO HYES HWZ hwz hnx
                go_wp2
                go_roundw
                case rel => exact ⟨R ++ [z], u, by rw [List.length_append, List.length_singleton]; omega, rfl, HB9.out, HB8.out, by have := HO6.out; rw [List.length_append, List.length_singleton] at this ⊢; exact this, HN⟩
                case measure => simp [lenOf]; omega
        · have hr66 : R.length = 66 := by omega
          have HN : Hid (ringP x = ringFrom x (65 - (k + 1)) (k + 1)) := Lib.hid (ring_on HP.out hlt (by
            have := HWY.out
            rw [hr66] at this
            exact this.symm))
          go_wp2
          go_roundw
          case rel => exact ⟨k + 1, by omega, by go_num, HB1.out, HB2.out, HN⟩
          case measure => simp [intOf]; omega
    · obtain rfl : k = 65 := by omega
      have HRR : Hid (ringP x = []) := Lib.hid HP.out
      have HB1 := Lib.hid hbel
      clear hbel hbel0
      go_wp2
      go_ret
      rw [HRR.out]
      exact IntsNew.nil HB1.out
end Go.Proofs.Ytdgmcaehadigaaa
