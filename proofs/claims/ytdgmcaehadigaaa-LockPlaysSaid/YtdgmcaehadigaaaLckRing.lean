/- lock's Held and Ring, by contract. -/
import Derived.Test.YtdgmcaehadigaaaLckTake
import Derived.Test.YtdgmcaehadigaaaShelf
import Derived.Test.YtdgmcaehadigaaaClkNew
import Derived.Shelf.SortG.Plain
import Derived.Shelf.SortG.SortNone
namespace Go.Proofs.Ytdgmcaehadigaaa
open Go.RowKit Go.Maps Go.Sort

theorem blocker_any {w : World} {p : Value} {x : LX} (h : TabO w p x) (hx : LFit x) (k : Int) (hk : IsI k) :
    Calls Try.prog 117 #[p, .int .i64 k] w fun e w' => e = .returned (.tuple #[.int .i64 ((nx x k).getD 0), .bool (nx x k).isSome]) ∧ w = w' := by
  have HW := Lib.hid (Waits_any h k hk)
  cases h1 : waitOf x.ws k with
  | none =>
    have hn : nx x k = none := by unfold nx; rw [h1]; rfl
    have HN := Lib.hid hn
    rw [h1] at HW
    clear hn h1
    go_enter Try.func117, Try.ntmps117
    go_wp2_with fail
    refine HW.out.mono ?_
    rintro e w1 ⟨rfl, rfl⟩
    go_wp2
    go_ret2
    rw [HN.out]
    exact ⟨rfl, rfl⟩
  | some n =>
    have hn : nx x k = hold x.hs n := by unfold nx; rw [h1]; rfl
    have HH := Lib.hid (Holder_any h n (by
      have := (hx.ww _ _ (wait_some h1)).1
      unfold IsI
      exact WalkArith.wf_i64 (by omega)))
    rw [← hn] at HH
    rw [h1] at HW
    clear hn h1
    generalize (nx x k).getD 0 = a at *
    generalize (nx x k).isSome = b at *
    go_enter Try.func117, Try.ntmps117
    go_wp2_with fail
    refine HW.out.mono ?_
    rintro e w1 ⟨rfl, rfl⟩
    go_wp2_with fail
    refine HH.out.mono ?_
    rintro e w1 ⟨rfl, rfl⟩
    go_wp2
    go_ret2
    exact ⟨rfl, rfl⟩


/-- How long a slice is. -/
def lenOf : Value → Nat
  | .slice _ n _ => n
  | _ => 0
theorem IntsNew.nil {w w' : World} (hb : Below w.heap.size w w') : IntsNew [] w (.returned (.slice none 0 0)) w' := ⟨none, 0, rfl, fun k z h => by simp at h, hb⟩
theorem ownsRow_less {w : World} {base base' : Nat} {e : TypeId} {size n : Nat} {v : Value} {xs : List Value} (h : w.ownsRow base e size v n xs) (hb : base' ≤ base) : w.ownsRow base' e size v n xs := by
  obtain ⟨hl, h⟩ := h
  rcases h with h | ⟨g, cap, cur, hv, hg, hr⟩
  · exact ⟨hl, .inl h⟩
  · exact ⟨hl, .inr ⟨g, cap, cur, hv, by omega, hr⟩⟩
theorem isI_worker {k : Int} (h : 0 ≤ k ∧ k ≤ 64) : IsI k := by
  unfold IsI
  exact WalkArith.wf_i64 (by omega)

set_option maxRecDepth 100000 in
set_option maxHeartbeats 2000000 in
theorem ringOf_any {w : World} {p : Value} {x : LX} (h : TabO w p x) (hx : LFit x) (k : Int) (hk : IsI k) :
    Calls Try.prog 90 #[p, .int .i64 k] w (IntsNew (ringAt x k) w) := by
  obtain ⟨i0, hi0, hz0, hz1, hz2⟩ := info_parts info_int
  have HT : Hid (∀ W, Below w.heap.size w W → ∀ a, IsI a → Calls Try.prog 117 #[p, .int .i64 a] W fun e w' => e = .returned (.tuple #[.int .i64 ((nx x a).getD 0), .bool (nx x a).isSome]) ∧ W = w') := Lib.hid fun W hb a ha => blocker_any (h.later hb) hx a ha
  have HX := Lib.hid hx
  have HK := Lib.hid hk
  clear h hx hk
  go_enter Try.func90, Try.ntmps90
  go_wp2
  go_loopw [5, 6, 7] (fun s y t wr => ∃ (l : List Int) (a : Int) (b : Bool), y = .int .i64 a ∧ t = .bool b ∧ wr.ownsRow w.heap.size 3 1 s l.length (l.map (Value.int .i64)) ∧ Below w.heap.size w wr ∧ l.length ≤ 65 ∧ Hid (IsI a) ∧ Hid (ringAt x k = if b = true then way x k (65 - l.length) a l else []))
    (fun s _ _ _ => 65 - lenOf s)
  case atStart => exact ⟨[], k, true, rfl, rfl, World.ownsRow_nil _ _ _ _, Below.refl _ _, by simp, HK.out, rfl⟩
  case round =>
    obtain ⟨l, a, b, rfl, rfl, hown, hbel, hl, HI, HR⟩ := hrel
    have hb1 := hbel.size
    obtain ⟨A, c, rfl, hlc, hcm⟩ := ownSlice hown
    cases b with
    | false =>
      have HO := Lib.hid (show IntsNew (ringAt x k) w (.returned (.slice none 0 0)) wr by
        rw [HR.out]
        exact IntsNew.nil hbel)
      clear hown hbel
      go_wp2
      go_ret
      exact HO.out
    | true =>
      have HR1 : Hid (ringAt x k = way x k (65 - l.length) a l) := Lib.hid (by rw [HR.out, if_pos rfl])
      clear HR
      by_cases hlt : l.length < 65
      · have hle : (l.length : Int) ≤ 64 := by omega
        have HL : Hid (65 - l.length = (65 - (l.length + 1)) + 1) := Lib.hid (by omega)
        go_wp2_with (at_builtin; refine wpList_append_own _ rfl _ _ 38 rfl w.heap.size 3 i0 (.int .i64 0) 1 8 Try.underlying38 hi0 hz0 hz1 hz2 rfl (by decide) _ _ _ rfl (hown.alloc _) ⟨wr.heap.size, 0, none⟩ 1 1 [.int .i64 a] rfl rfl ?c1 ?c2 ?c3 ?c4 ?c5 ?_)
        case c2 => intro u hu; simp at hu; subst hu; rfl
        case c3 => unfold maxLen; omega
        case c4 => omega
        case c5 => simp; omega
        · intro j u hj
          match j, hj with
          | 0, hj => simp at hj; subst hj; simp [Addr.add]
        intro v' w2 hown2 hgrow _
        have hB := ownBase (hown.alloc (.cells #[.int .i64 a] 3)) (hbel.alloc hb1 _) (Nat.le_refl _) (by simp; omega) hgrow
        have hown3 : w2.ownsRow w.heap.size 3 1 v' (l ++ [a]).length ((l ++ [a]).map (Value.int .i64)) := by simpa using hown2
        clear hgrow hown hown2 hbel
        have hlen : (l ++ [a]).length = l.length + 1 := by simp
        cases hn : nx x a with
        | none =>
          have HR2 : Hid (ringAt x k = []) := Lib.hid (by
            rw [HR1.out, HL.out, way, hn])
          have HBC := Lib.hid (HT.out w2 hB a HI.out)
          rw [hn] at HBC
          clear hn
          go_wp2_with fail
          refine HBC.out.mono ?_
          rintro e w3 ⟨rfl, rfl⟩
          go_wp2
          go_roundw
          case rel => exact ⟨l ++ [a], 0, false, rfl, rfl, hown3, hB, by omega, isI_worker (by decide), HR2.out⟩
          case measure =>
            obtain ⟨A2, c2, rfl, _, _⟩ := ownSlice hown3
            simp [lenOf]; omega
        | some y =>
          have HBC := Lib.hid (HT.out w2 hB a HI.out)
          rw [hn] at HBC
          have HY := Lib.hid (isI_worker (nx_ok HX.out hn).2)
          by_cases hyk : y = k
          · have HO := Lib.hid (show IntsNew (ringAt x k) w (.returned v') w2 by
              rw [HR1.out, HL.out, way, hn]
              simp only
              rw [if_pos hyk]
              exact IntsNew.of_own hown3 hB)
            subst hyk
            clear hn
            go_wp2_with fail
            refine HBC.out.mono ?_
            rintro e w3 ⟨rfl, rfl⟩
            go_wp2
            go_ret
            exact HO.out
          · have HR2 : Hid (ringAt x k = way x k (65 - (l ++ [a]).length) y (l ++ [a])) := Lib.hid (by
              rw [HR1.out, HL.out, way, hn]
              simp only
              rw [if_neg hyk, hlen])
            clear hn
            go_wp2_with fail
            refine HBC.out.mono ?_
            rintro e w3 ⟨rfl, rfl⟩
            go_wp2
            go_roundw
            case rel => exact ⟨l ++ [a], y, true, rfl, rfl, hown3, hB, by omega, HY.out, by rw [Hid, if_pos rfl]; exact HR2.out⟩
            case measure =>
              obtain ⟨A2, c2, rfl, _, _⟩ := ownSlice hown3
              simp [lenOf]; omega
      · have hl65 : l.length = 65 := by omega
        have HO := Lib.hid (show IntsNew (ringAt x k) w (.returned (.slice none 0 0)) wr by
          rw [HR1.out, hl65, show way x k (65 - 65) a l = [] from rfl]
          exact IntsNew.nil hbel)
        have hle : ¬ (l.length : Int) ≤ 64 := by omega
        clear hown hbel
        go_wp2
        go_ret
        exact HO.out

theorem ringFrom_step (x : LX) (j k : Nat) : ringFrom x (j + 1) k = if ringAt x k = [] then ringFrom x j (k + 1) else ringAt x k := rfl
set_option maxRecDepth 100000 in
set_option maxHeartbeats 2000000 in
theorem Ring_any {w : World} {p : Value} {x : LX} (h : TabO w p x) (hx : LFit x) :
    Calls Try.prog 32 #[p] w (IntsNew (ringP x) w) := by
  have HT : Hid (∀ W, Below w.heap.size w W → ∀ a : Nat, a < 65 → Calls Try.prog 90 #[p, .int .i64 (a : Int)] W (IntsNew (ringAt x a) W)) := Lib.hid fun W hb a ha => ringOf_any (h.later hb) hx a (isI_worker (by omega))
  clear h hx
  go_enter Try.func32, Try.ntmps32
  go_wp2
  go_loopw [5] (fun i wr => ∃ k : Nat, k ≤ 65 ∧ i = .int .i64 k ∧ Below w.heap.size w wr ∧ Hid (ringP x = ringFrom x (65 - k) k)) (fun i _ => 65 - (intOf i).toNat)
  case atStart => exact ⟨0, by decide, rfl, Below.refl _ _, rfl⟩
  case round =>
    obtain ⟨k, hk, rfl, hbel, HR⟩ := hrel
    by_cases hlt : k < 65
    · have hk1 : (k : Int) < 65 := by omega
      have hk0 : (0 : Int) ≤ (k : Int) := by omega
      have HL : Hid (65 - k = (65 - (k + 1)) + 1) := Lib.hid (by omega)
      go_wp2_with fail
      refine (HT.out wr hbel k hlt).mono ?_
      intro e w2 ho
      by_cases hr : ringAt x k = []
      · have HR2 : Hid (ringP x = ringFrom x (65 - (k + 1)) (k + 1)) := Lib.hid (by rw [HR.out, HL.out, ringFrom_step, if_pos hr])
        rw [hr] at ho
        obtain ⟨A, c, rfl, _, hb⟩ := ho
        have hB := Below.next hbel hb
        clear hb hbel hr
        go_wp2
        go_roundw
        case rel => exact ⟨k + 1, by omega, by go_num, hB, HR2.out⟩
        case measure => simp [intOf]; omega
      · have HR2 : Hid (ringP x = ringAt x k) := Lib.hid (by rw [HR.out, HL.out, ringFrom_step, if_neg hr])
        have hpos : 0 < (ringAt x k).length := List.length_pos_iff.2 hr
        have HO := Lib.hid (IntsNew.later hbel ho)
        rw [← HR2.out] at HO hpos
        obtain ⟨A, c, he, _⟩ := ho
        rw [← HR2.out] at he
        clear hr hbel
        generalize (ringP x).length = n at he hpos
        subst he
        have hpi : (0 : Int) < (n : Int) := by omega
        go_wp2
        go_ret
        exact HO.out
    · obtain rfl : k = 65 := by omega
      have HO := Lib.hid (show IntsNew (ringP x) w (.returned (.slice none 0 0)) wr by
        rw [HR.out, show ringFrom x (65 - 65) 65 = [] from rfl]
        exact IntsNew.nil hbel)
      clear hbel
      go_wp2
      go_ret
      exact HO.out

end Go.Proofs.Ytdgmcaehadigaaa
