/- The document's ring (ganglionref23), by contract, second part: List, Check, Do, New, Locks. -/
import Derived.Test.YtkoelbdmpnelhaaRefRing
import Derived.Test.YtkoelbdmpnelhaaRingNew
import Derived.Test.YtkoelbdmpnelhaaRingLocks
namespace Go.Proofs.Ytkoelbdmpnelhaa
open Go.RowKit

/-- None of the first k is x. -/
def NotTo (zs : List Int) (x : Int) (k : Nat) : Prop := x ∉ zs.take k
theorem NotTo.snoc {zs : List Int} {x y : Int} {k : Nat} (h : NotTo zs x k) (hy : zs[k]? = some y) (hne : ¬ x = y) : NotTo zs x (k + 1) := fun e => by
  obtain ⟨hk, rfl⟩ := List.getElem?_eq_some_iff.1 hy
  rw [List.take_succ_eq_append_getElem hk] at e
  rcases List.mem_append.1 e with e | e
  · exact h e
  · exact hne (List.mem_singleton.1 e)
set_option maxHeartbeats 1000000 in
theorem has9_any (A : Option Addr) (zs : List Int) (c : Nat) (x : Int) (w : World) {B : Nat} (hA : Rd (Value.int .i64) w B A zs) (hl : zs.length ≤ 9223372036854775807) :
    Calls Try.prog 125 #[.slice A zs.length c, .int .i64 x] w fun e w' => e = .returned (.bool (memB zs x)) ∧ w = w' := by
  go_enter Try.func125, Try.ntmps125
  go_wp2
  go_loop [9] (fun i => ∃ k : Nat, k ≤ zs.length ∧ i = .int .i64 k ∧ Hid (NotTo zs x k)) (fun i => zs.length - (intOf i).toNat)
  case atStart => exact ⟨0, Nat.zero_le _, rfl, by simp [NotTo, Hid]⟩
  case round =>
    obtain ⟨k, hk, rfl, HN⟩ := hrel
    by_cases hlt : k < zs.length
    · obtain ⟨b, off, rfl, hb, h0⟩ := hA k _ (List.getElem?_eq_getElem hlt)
      have HZ := Lib.hid (List.getElem?_eq_getElem hlt)
      have HM := Lib.hid (List.getElem_mem hlt)
      generalize zs[k] = z at *
      have hkl : (k : Int) < (zs.length : Int) := by omega
      have hk0 : (0 : Int) ≤ (k : Int) := by omega
      by_cases hx : x = z
      · subst hx
        go_wp2
        go_ret
        exact ⟨ret_bool (decide_eq_true HM.out).symm, rfl⟩
      · have hx2 : ¬ z = x := fun e => hx e.symm
        go_wp2
        go_round
        case rel => exact ⟨k + 1, by omega, by go_num, HN.out.snoc HZ.out hx⟩
        case measure => simp [intOf]; omega
    · have HE : Hid (memB zs x = false) := Lib.hid (decide_eq_false (by
        obtain rfl : k = zs.length := by omega
        have := HN.out
        unfold NotTo at this
        rwa [List.take_length] at this))
      go_wp2
      go_ret
      exact ⟨ret_bool HE.out.symm, rfl⟩

set_option maxRecDepth 100000 in
set_option maxHeartbeats 2000000 in
theorem rfList_n {ws : List Int} {c : Nat} {A : Option Addr} {w : World} (hT : RfAtC ws c A w) : Calls Try.prog 62 #[.slice A ws.length c] w (ListNew (lstW ws) w) := by
  obtain ⟨i0, hi0, hz0, hz1, hz2⟩ := info_parts info_int
  have HT := Lib.hid hT
  clear hT
  obtain ⟨n0, p0, e1, _, hnb, _, HC⟩ := HT.out _ (Below.refl _ _) 0
  have HS : Hid (lstW ws = lstF (NW ws) (4097 - 0) [] n0) := Lib.hid (by unfold lstW lst; rw [e1])
  have HC0 := Lib.hid HC
  clear HC e1
  go_enter Try.func62, Try.ntmps62
  go_wp2_with fail
  refine HC0.out.mono ?_
  rintro e w1 ⟨rfl, hb1⟩
  have HB1 := Lib.hid hb1
  clear hb1 HC0
  go_wp2
  go_loopw [3, 4] (fun l s wr => ∃ (L : List Int) (a : Int), s = .int .i64 a ∧ wr.ownsRow w.heap.size 3 1 l L.length (L.map (Value.int .i64)) ∧ Below w.heap.size w wr ∧ Hid (MetR L) ∧ L.length ≤ 4096 ∧ -1 ≤ a ∧ a ≤ 4096 ∧ Hid (lstW ws = lstF (NW ws) (4097 - L.length) L a))
    (fun l _ _ => 4097 - lenS l)
  case atStart => exact ⟨[], n0, rfl, World.ownsRow_nil _ _ _ _, HB1.out, ⟨by simp, fun x hx => by cases hx⟩, by simp, hnb.1, hnb.2, HS.out⟩
  case round =>
    obtain ⟨L, a, rfl, hown, hbel, HMT, hlen, ha0, ha1, HR⟩ := hrel
    obtain ⟨A1, c1, rfl, hlc, hcm⟩ := ownSlice hown
    by_cases hpos : 0 < a
    · have HH := Lib.hid (has9_any A1 L c1 a wr (Rd.of_own (f := Value.int .i64) hown) (by omega))
      by_cases hin : a ∈ L
      · have hm : memB L a = true := decide_eq_true hin
        have HO : Hid (ListNew (lstW ws) w (.returned (.slice A1 L.length c1)) wr) := Lib.hid (by
          rw [HR.out, lstF_stop (fun h => h.2 hin)]
          exact ListNew.of_own hown hbel)
        rw [hm] at HH
        clear hown hbel hin hm
        go_wp2_with fail
        refine HH.out.mono ?_
        rintro e w2 ⟨rfl, rfl⟩
        go_wp2
        go_ret
        exact HO.out
      · have hm : memB L a = false := decide_eq_false hin
        rw [hm] at HH
        have HMT2 := Lib.hid (HMT.out.snoc hpos ha1 hin)
        have HR2 : Hid (lstW ws = lstF (NW ws) (4097 - (L ++ [a]).length) (L ++ [a]) (NW ws a)) := Lib.hid (by
          rw [HR.out, lstF_step hpos hin (by omega)]
          congr 1
          rw [List.length_append]
          simp
          omega)
        have HB2 := Lib.hid hbel
        have HRW := Lib.hid hown
        have hs2 := hbel.size
        clear hown hbel hin hm HR HMT
        go_wp2_with fail
        refine HH.out.mono ?_
        rintro e w2 ⟨rfl, rfl⟩
        go_upto_region 5 with (at_builtin; refine wpList_append_own _ rfl _ _ 38 rfl w.heap.size 3 i0 (.int .i64 0) 1 8 Try.underlying38 hi0 hz0 hz1 hz2 rfl (by decide) _ _ _ rfl (HRW.out.alloc _) ⟨wr.heap.size, 0, none⟩ 1 1 [.int .i64 a] rfl rfl ?c1 ?c2 ?c3 ?c4 ?c5 ?_)
        case c2 => intro u hu; simp at hu; subst hu; rfl
        case c3 => unfold maxLen; omega
        case c4 => omega
        case c5 => simp; omega
        · intro j u hj
          match j, hj with
          | 0, hj => simp at hj; subst hj; simp [Addr.add]
        intro v' w3 hown3 hgrow _
        have hb3 := ownBase (HRW.out.alloc (.cells #[.int .i64 a] 3)) (HB2.out.alloc hs2 _) (Nat.le_refl _) (by simp; omega) hgrow
        have HRW3 : Hid (w3.ownsRow w.heap.size 3 1 v' (L ++ [a]).length ((L ++ [a]).map (Value.int .i64))) := Lib.hid (by simpa using hown3)
        obtain ⟨n, p, e1, _, hnb, _, HC⟩ := HT.out w3 hb3 a
        have HR3 : Hid (lstW ws = lstF (NW ws) (4097 - (L ++ [a]).length) (L ++ [a]) n) := Lib.hid (by rw [HR2.out, e1])
        have HB3 := Lib.hid hb3
        clear hb3 hown3 hgrow HRW HR2 e1 HB2 HH
        go_wp2_with fail
        refine HC.mono ?_
        rintro e w4 ⟨rfl, hb4⟩
        have HRW4 := Lib.hid (ownsRow_same HRW3.out (fun g hg => hb4.block g (HRW3.out.lt g hg).2))
        have hB4 := Below.next HB3.out hb4
        have hl2 := HMT2.out.len
        clear hb4 HRW3
        go_wp2
        go_roundw
        case rel => exact ⟨L ++ [a], n, rfl, HRW4.out, hB4, HMT2.out, hl2, hnb.1, hnb.2, HR3.out⟩
        case measure =>
          obtain ⟨A2, c2, rfl, _, _⟩ := ownSlice HRW4.out
          simp [lenS] at *
          omega
    · have HO : Hid (ListNew (lstW ws) w (.returned (.slice A1 L.length c1)) wr) := Lib.hid (by
        rw [HR.out, lstF_stop (fun h => hpos h.1)]
        exact ListNew.of_own hown hbel)
      clear hown hbel
      go_wp2
      go_ret
      exact HO.out

theorem place_any {ws : List Int} {c : Nat} {A : Option Addr} {w : World} (hT : RfAtC ws c A w) (n : Int) : Calls Try.prog 129 #[.slice A ws.length c, .int .i64 n] w fun e w' => e = .returned (.bool (plc (NW ws) n)) ∧ Below w.heap.size w w' := by
  obtain ⟨m, p, en, _, _, _, HC⟩ := hT w (Below.refl _ _) n
  have HP : Hid (plc (NW ws) n = decide (n = 0 ∨ (0 < n ∧ 0 ≤ m))) := Lib.hid (by unfold plc; rw [en])
  have HC0 := Lib.hid HC
  clear HC en hT
  generalize plc (NW ws) n = q at *
  have hw : (n = 0 ∧ Hid (q = true)) ∨ ((n == 0) = false ∧ ¬ 0 < n ∧ Hid (q = false)) ∨ ((n == 0) = false ∧ 0 < n ∧ 0 ≤ m ∧ Hid (q = true)) ∨ ((n == 0) = false ∧ 0 < n ∧ m < 0 ∧ Hid (q = false)) := by
    by_cases h0 : n = 0
    · exact .inl ⟨h0, Lib.hid (by rw [HP.out]; exact decide_eq_true (.inl h0))⟩
    · have hb : (n == 0) = false := by rw [beq_eq_false_iff_ne]; exact h0
      by_cases h1 : 0 < n
      · by_cases h2 : 0 ≤ m
        · exact .inr (.inr (.inl ⟨hb, h1, h2, Lib.hid (by rw [HP.out]; exact decide_eq_true (.inr ⟨h1, h2⟩))⟩))
        · exact .inr (.inr (.inr ⟨hb, h1, by omega, Lib.hid (by rw [HP.out]; exact decide_eq_false (by omega))⟩))
      · exact .inr (.inl ⟨hb, h1, Lib.hid (by rw [HP.out]; exact decide_eq_false (by omega))⟩)
  clear HP
  rcases hw with ⟨rfl, HQ⟩ | ⟨hb, h1, HQ⟩ | ⟨hb, h1, h2, HQ⟩ | ⟨hb, h1, h2, HQ⟩
  all_goals
    go_enter Try.func129, Try.ntmps129
    go_wp2_with fail
    refine HC0.out.mono ?_
    rintro e w1 ⟨rfl, hb1⟩
    go_wp2
    go_ret
    exact ⟨ret_bool (by first | exact HQ.out.symm | exact (decide_eq_true (by omega)).trans HQ.out.symm | exact (decide_eq_false (by omega)).trans HQ.out.symm), hb1⟩

theorem cntR_succ (N : Int → Int) (k : Nat) : cntR N (k + 1) = cntR N k + if 0 < (k : Int) ∧ 0 ≤ N k then 1 else 0 := by
  unfold cntR
  rw [List.range_succ, List.countP_append]
  simp [List.countP_cons]
theorem cntR_le (N : Int → Int) (k : Nat) : cntR N k ≤ k := by
  unfold cntR
  have := List.countP_le_length (p := fun (s : Nat) => decide (0 < (s : Int) ∧ 0 ≤ N s)) (l := List.range k)
  simpa using this
/-- Each of the first k is a right word, in its place. -/
def FitTo (ws : List Int) (k : Nat) : Prop := (ws.take k).any foreignB = false ∧ ∀ j : Nat, j < k → okR (NW ws) (PW ws) (j : Int) = true
theorem FitTo.snoc {ws : List Int} {x : Int} {k : Nat} (h : FitTo ws k) (hx : ws[k]? = some x) (h1 : foreignB x = false) (h2 : okR (NW ws) (PW ws) (k : Int) = true) : FitTo ws (k + 1) := by
  obtain ⟨hk, rfl⟩ := List.getElem?_eq_some_iff.1 hx
  refine ⟨?_, fun j hj => ?_⟩
  · rw [List.take_succ_eq_append_getElem hk, List.any_append, h.1]
    simp [h1]
  · rcases Nat.lt_succ_iff_lt_or_eq.1 hj with h3 | rfl
    · exact h.2 j h3
    · exact h2
theorem chk_right {ws : List Int} (hu : U64L ws) : chkW ws = (decide (1 ≤ ws.length ∧ ws.length ≤ 4097) && (!(ws.any foreignB) && rightR (NW ws) (PW ws) ws.length)) := by
  unfold chkW
  by_cases h : 1 ≤ ws.length ∧ ws.length ≤ 4097
  · rw [right_whole (bndW hu) h.1 h.2]
  · rw [decide_eq_false h]; rfl
theorem chk_bad1 {ws : List Int} {x : Int} {k : Nat} (hx : ws[k]? = some x) (h1 : foreignB x = true) : errOf (chkW ws) = 7 := by
  unfold errOf chkW
  rw [show ws.any foreignB = true from List.any_eq_true.2 ⟨x, List.mem_of_getElem? hx, h1⟩]
  simp
theorem chk_bad2 {ws : List Int} (hu : U64L ws) {k : Nat} (hk : k < ws.length) (h : okR (NW ws) (PW ws) (k : Int) = false) : errOf (chkW ws) = 7 := by
  rw [chk_right hu]
  unfold errOf rightR
  rw [show ((List.range ws.length).all fun s => okR (NW ws) (PW ws) s) = false from by
    rw [List.all_eq_false]
    exact ⟨k, List.mem_range.2 hk, by rw [h]; decide⟩]
  simp
theorem chk_end {ws : List Int} (hu : U64L ws) (h1 : 1 ≤ ws.length) (h2 : ws.length ≤ 4097) (h : FitTo ws ws.length) : errOf (chkW ws) = if (lstW ws).length = cntR (NW ws) ws.length then 0 else 7 := by
  have h3 := h.1
  rw [List.take_length] at h3
  rw [chk_right hu, h3, decide_eq_true ⟨h1, h2⟩]
  unfold errOf rightR
  rw [show ((List.range ws.length).all fun s => okR (NW ws) (PW ws) s) = true from by
    rw [List.all_eq_true]
    exact fun s hs => h.2 s (List.mem_range.1 hs)]
  by_cases e : (lst (NW ws)).length = cntR (NW ws) ws.length
  · simp [lstW, e]
  · simp [lstW, e]
end Go.Proofs.Ytkoelbdmpnelhaa
