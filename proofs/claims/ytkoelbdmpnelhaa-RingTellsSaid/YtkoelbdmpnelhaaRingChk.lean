/- ring's Check, by contract. -/
import Derived.Test.YtkoelbdmpnelhaaRingList
namespace Go.Proofs.Ytkoelbdmpnelhaa
open Go.RowKit

theorem cntS_succ (N P : Int → Int) (k : Nat) : cntS N P (k + 1) = cntS N P k + if inS N P (k : Int) = true then 1 else 0 := by
  unfold cntS
  rw [List.range_succ, List.countP_append]
  simp [List.countP_cons]
theorem cntS_le (N P : Int → Int) (k : Nat) : cntS N P k ≤ k := by
  unfold cntS
  have := List.countP_le_length (p := fun (s : Nat) => inS N P (s : Int)) (l := List.range k)
  simpa using this
/-- Each of the first k leads back. -/
def OkToR (N P : Int → Int) (k : Nat) : Prop := ∀ j : Nat, j < k → okS N P (j : Int) = true
theorem OkToR.snoc {N P : Int → Int} {k : Nat} (h : OkToR N P k) (hk : okS N P (k : Int) = true) : OkToR N P (k + 1) := fun j hj => by
  rcases Nat.lt_succ_iff_lt_or_eq.1 hj with h1 | rfl
  · exact h j h1
  · exact hk
theorem whole_not {N P : Int → Int} {len k : Nat} (hk : k < len) (h : okS N P (k : Int) = false) : wholeB N P len = false := by
  unfold wholeB
  rw [show ((List.range len).all fun s => okS N P s) = false from by
    rw [List.all_eq_false]
    exact ⟨k, List.mem_range.2 hk, by rw [h]; decide⟩]
  rfl
theorem whole_end {N P : Int → Int} {len : Nat} (h : OkToR N P len) : wholeB N P len = decide (((lst N).length : Int) = (cntS N P len : Int) - 1) := by
  unfold wholeB
  rw [show ((List.range len).all fun s => okS N P s) = true from by
    rw [List.all_eq_true]
    exact fun s hs => h s (List.mem_range.1 hs)]
  rfl

set_option maxRecDepth 100000 in
set_option maxHeartbeats 2000000 in
theorem isWhole_c {ws : List Int} {c : Nat} {A : Option Addr} {w : World} (hT : AtC ws c A w) (hlen : ws.length ≤ 100000) : Calls Try.prog 128 #[.slice A ws.length c] w fun e w' => e = .returned (.bool (wholeB (NW ws) (PW ws) ws.length)) ∧ Below w.heap.size w w' := by
  have HT := Lib.hid hT
  clear hT
  have HL := Lib.hid (fun W hb => rList_c (HT.out.later (w1 := W) hb))
  go_enter Try.func128, Try.ntmps128
  go_wp2
  go_loopw [3, 11] (fun n i wr => ∃ k m : Nat, k ≤ ws.length ∧ m ≤ k ∧ i = .int .i64 (k : Int) ∧ n = .int .i64 (m : Int) ∧ Below w.heap.size w wr ∧ Hid (m = cntS (NW ws) (PW ws) k) ∧ Hid (OkToR (NW ws) (PW ws) k)) (fun _ i _ => ws.length - (intOf i).toNat)
  case atStart => exact ⟨0, 0, Nat.zero_le _, Nat.le_refl _, rfl, rfl, Below.refl _ _, rfl, fun j hj => absurd hj (Nat.not_lt_zero j)⟩
  case round =>
    obtain ⟨k, m, hk, hmk, rfl, rfl, hbel, HM, HO⟩ := hrel
    by_cases hlt : k < ws.length
    · have hkl : (k : Int) < (ws.length : Int) := by omega
      have hk0 : (0 : Int) ≤ (k : Int) := by omega
      obtain ⟨n, p, en, ep, hnb, hpb, HC⟩ := HT.out wr hbel (k : Int)
      obtain ⟨b, q, eb, eq, hbb, hqb, HC2⟩ := HT.out wr hbel n
      have HC2' : Hid (∀ W, Below w.heap.size w W → Calls Try.prog 59 #[.slice A ws.length c, .int .i64 n] W fun e w' => e = .returned (.tuple #[.int .i64 b, .int .i64 q]) ∧ Below W.heap.size W w') := Lib.hid fun W hW => by
        obtain ⟨b', q', eb', eq', _, _, h⟩ := HT.out W hW n
        rw [← eb, ← eq, eb', eq']
        exact h
      clear HC2
      by_cases hskip : (k : Int) ≠ 0 ∧ n < 0 ∧ p < 0
      · obtain ⟨hkz, hn, hp⟩ := hskip
        have hin : inS (NW ws) (PW ws) (k : Int) = false := decide_eq_false (by rw [en, ep]; omega)
        have HM2 : Hid (m = cntS (NW ws) (PW ws) (k + 1)) := Lib.hid (by rw [cntS_succ, hin, ← HM.out]; rfl)
        have HO2 := Lib.hid (HO.out.snoc (show okS (NW ws) (PW ws) (k : Int) = true by unfold okS; rw [hin]; rfl))
        have hb0 : ((k : Int) != 0) = true := by rw [bne_iff_ne]; exact hkz
        have HB := Lib.hid hbel
        clear hin HM HO hkz en ep eb eq HC2' hbel
        go_wp2_with fail
        refine HC.mono ?_
        rintro e w2 ⟨rfl, hb2⟩
        have hB2 := Below.next HB.out hb2
        clear hb2
        go_wp2
        go_roundw
        case rel => exact ⟨k + 1, m, by omega, by omega, by go_num, rfl, hB2, HM2.out, HO2.out⟩
        case measure => simp [intOf]; omega
      · have hin : inS (NW ws) (PW ws) (k : Int) = true := decide_eq_true (by rw [en, ep]; omega)
        have hcase : ((k : Int) != 0) = false ∨ (((k : Int) != 0) = true ∧ 0 ≤ n) ∨ (((k : Int) != 0) = true ∧ n < 0 ∧ 0 ≤ p) := by
          rw [bne_iff_ne, bne_eq_false_iff_eq]
          omega
        clear hskip
        by_cases hback : 0 ≤ b ∧ q = (k : Int)
        · obtain ⟨hb0, hqk⟩ := hback
          have hqk2 : ((q : Int) != (k : Int)) = false := by rw [bne_eq_false_iff_eq]; exact hqk
          have HM2 : Hid (m + 1 = cntS (NW ws) (PW ws) (k + 1)) := Lib.hid (by rw [cntS_succ, hin, ← HM.out]; rfl)
          have HO2 := Lib.hid (HO.out.snoc (show okS (NW ws) (PW ws) (k : Int) = true by unfold okS; rw [hin, en, eb, eq, decide_eq_true (And.intro hb0 hqk)]; rfl))
          have HB := Lib.hid hbel
          clear hin HM HO hqk en ep eb eq hbel
          have hm1 : (m : Int) ≤ 100000 := by omega
          have hm0 : (0 : Int) ≤ (m : Int) := by omega
          rcases hcase with h1 | ⟨h1, h2⟩ | ⟨h1, h2, h3⟩
          all_goals
            go_wp2_with fail
            refine HC.mono ?_
            rintro e w2 ⟨rfl, hb2⟩
            have hB2 := Below.next HB.out hb2
            clear hb2
            go_wp2_with fail
            refine (HC2'.out _ hB2).mono ?_
            rintro e w3 ⟨rfl, hb3⟩
            have hB3 := Below.next hB2 hb3
            clear hb3 hB2
            go_wp2
            go_roundw
            case rel => exact ⟨k + 1, m + 1, by omega, by omega, by go_num, by go_num, hB3, HM2.out, HO2.out⟩
            case measure => simp [intOf]; omega
        · have HW : Hid (wholeB (NW ws) (PW ws) ws.length = false) := Lib.hid (whole_not hlt (by unfold okS; rw [hin, en, eb, eq, decide_eq_false hback]; rfl))
          have HB := Lib.hid hbel
          have hcase2 : b < 0 ∨ (0 ≤ b ∧ ((q : Int) != (k : Int)) = true) := by
            rw [bne_iff_ne]; omega
          clear hin HM HO en ep eb eq hback hbel
          rcases hcase with h1 | ⟨h1, h2⟩ | ⟨h1, h2, h3⟩ <;> rcases hcase2 with h4 | ⟨h4, h5⟩
          all_goals
            go_wp2_with fail
            refine HC.mono ?_
            rintro e w2 ⟨rfl, hb2⟩
            have hB2 := Below.next HB.out hb2
            clear hb2
            go_wp2_with fail
            refine (HC2'.out _ hB2).mono ?_
            rintro e w3 ⟨rfl, hb3⟩
            have hB3 := Below.next hB2 hb3
            clear hb3 hB2
            go_wp2
            go_ret
            exact ⟨ret_bool HW.out.symm, hB3⟩
    · obtain rfl : k = ws.length := by omega
      have HW := Lib.hid (whole_end HO.out)
      rw [← HM.out] at HW
      have HB := Lib.hid hbel
      clear HM HO hbel
      have hm1 : (m : Int) ≤ 100000 := by omega
      have hm0 : (0 : Int) ≤ (m : Int) := by omega
      go_wp2_with fail
      refine (HL.out wr HB.out).mono ?_
      rintro e w2 ⟨A2, c2, rfl, _, hb2⟩
      have hB2 := Below.next HB.out hb2
      have HW2 : Hid (wholeB (NW ws) (PW ws) ws.length = decide (((lstW ws).length : Int) = (m : Int) - 1)) := HW
      clear hb2 HW HL
      generalize (lstW ws).length = len at *
      go_wp2
      go_ret
      exact ⟨ret_bool (by rw [HW2.out]; first | rfl | simp [Bool.eq_iff_iff]), hB2⟩

/-- None of the first k is no word of a ring. -/
def OwnTo (ws : List Int) (k : Nat) : Prop := (ws.take k).any foreignB = false
set_option maxHeartbeats 1000000 in
theorem wIndex_any {ws : List Int} {c : Nat} {A : Option Addr} {w : World} {B : Nat} (hA : Rd (Value.int .u64) w B A ws) (hB : B ≤ w.heap.size) (hI : U64L ws) (hlen : ws.length ≤ 100000) :
    Calls Try.prog 171 #[.slice A ws.length c, .func (.func 127) #[] #[]] w fun e w' => (∃ r : Int, e = .returned (.int .i64 r) ∧ decide (0 ≤ r) = ws.any foreignB) ∧ Below w.heap.size w w' := by
  have HA := Lib.hid hA
  have HI := Lib.hid hI
  clear hA hI
  go_enter Try.func171, Try.ntmps171
  go_wp2
  go_loopw [8] (fun i wr => ∃ k : Nat, k ≤ ws.length ∧ i = .int .i64 k ∧ Below w.heap.size w wr ∧ Hid (OwnTo ws k)) (fun i _ => ws.length - (intOf i).toNat)
  case atStart => exact ⟨0, Nat.zero_le _, rfl, Below.refl _ _, rfl⟩
  case round =>
    obtain ⟨k, hk, rfl, hbel, HK⟩ := hrel
    by_cases hlt : k < ws.length
    · obtain ⟨b, off, rfl, hb, hc⟩ := HA.out.below (hbel.mono hB) k _ (List.getElem?_eq_getElem hlt)
      have hx := HI.out _ (List.getElem_mem hlt)
      have HF := Lib.hid (rForeign_any ws[k] wr hx.1 hx.2)
      have HT : Hid ((foreignB ws[k] = true → ws.any foreignB = true) ∧ (foreignB ws[k] = false → OwnTo ws (k + 1))) := Lib.hid ⟨fun h => List.any_eq_true.2 ⟨_, List.getElem_mem hlt, h⟩, fun h => by
        unfold OwnTo
        rw [List.take_succ_eq_append_getElem hlt, List.any_append, HK.out]
        simp [h]⟩
      have hfb : ((ringD ws[k]).2.2 != 0) = foreignB ws[k] := rfl
      rw [hfb] at HF
      clear hfb hx
      generalize ws[k] = x at *
      have hkl : (k : Int) < (ws.length : Int) := by omega
      have hk0 : (0 : Int) ≤ (k : Int) := by omega
      have HB := Lib.hid hbel
      clear hbel
      cases hr : foreignB x with
      | true =>
        rw [hr] at HF HT
        have HR := Lib.hid (HT.out.1 rfl)
        clear hr HT
        go_wp2_with fail
        refine HF.out.mono ?_
        rintro e w2 ⟨rfl, hb2⟩
        have hB2 := Below.next HB.out hb2
        clear hb2
        go_wp2
        go_ret
        exact ⟨⟨(k : Int), rfl, by rw [HR.out]; exact decide_eq_true hk0⟩, hB2⟩
      | false =>
        rw [hr] at HF HT
        have HK2 := Lib.hid (HT.out.2 rfl)
        clear hr HT
        go_wp2_with fail
        refine HF.out.mono ?_
        rintro e w2 ⟨rfl, hb2⟩
        have hB2 := Below.next HB.out hb2
        clear hb2
        go_wp2
        go_roundw
        case rel => exact ⟨k + 1, by omega, by go_num, hB2, HK2.out⟩
        case measure => simp [intOf]; omega
    · have HE : Hid (ws.any foreignB = false) := Lib.hid (by
        have := HK.out
        unfold OwnTo at this
        rwa [List.take_of_length_le (by omega)] at this)
      go_wp2
      go_ret
      exact ⟨⟨-1, rfl, by rw [HE.out]; rfl⟩, hbel⟩
theorem wContains_any {ws : List Int} {c : Nat} {A : Option Addr} {w : World} {B : Nat} (hA : Rd (Value.int .u64) w B A ws) (hB : B ≤ w.heap.size) (hI : U64L ws) (hlen : ws.length ≤ 100000) :
    Calls Try.prog 126 #[.slice A ws.length c, .func (.func 127) #[] #[]] w fun e w' => e = .returned (.bool (ws.any foreignB)) ∧ Below w.heap.size w w' := by
  go_enter Try.func126, Try.ntmps126
  go_wp2_with fail
  refine (wIndex_any hA hB hI hlen).mono ?_
  rintro e w2 ⟨⟨r, rfl, hr⟩, hb2⟩
  have HR := Lib.hid hr
  clear hr hA hI
  go_wp2
  go_ret
  exact ⟨ret_bool (by rw [← HR.out]), hb2⟩

def errOf (b : Bool) : Int := if b = true then 0 else 7
set_option maxHeartbeats 1000000 in
theorem rCheck_any {ws : List Int} {c : Nat} {A : Option Addr} {w : World} {B : Nat} (hA : Rd (Value.int .u64) w B A ws) (hB : B ≤ w.heap.size) (hI : U64L ws) :
    Calls Try.prog 63 #[.slice A ws.length c] w fun e w' => e = .returned (.int .i64 (errOf (chkW ws))) ∧ Below w.heap.size w w' := by
  by_cases h1 : ws.length < 1
  · have HE : Hid (errOf (chkW ws) = 7) := Lib.hid (by unfold chkW errOf; rw [decide_eq_false (by omega)]; rfl)
    have h1i : (ws.length : Int) < 1 := by omega
    clear hA hI
    generalize chkW ws = ch at *
    go_enter Try.func63, Try.ntmps63
    go_wp2
    go_ret
    exact ⟨ret_int HE.out.symm, Below.refl _ _⟩
  · have h1i : (1 : Int) ≤ (ws.length : Int) := by omega
    by_cases h2 : 4097 < ws.length
    · have HE : Hid (errOf (chkW ws) = 7) := Lib.hid (by unfold chkW errOf; rw [decide_eq_false (by omega)]; rfl)
      have h2i : (4097 : Int) < (ws.length : Int) := by omega
      clear hA hI h1
      generalize chkW ws = ch at *
      go_enter Try.func63, Try.ntmps63
      go_wp2
      go_ret
      exact ⟨ret_int HE.out.symm, Below.refl _ _⟩
    · have h2i : (ws.length : Int) ≤ 4097 := by omega
      have HF := Lib.hid (wContains_any (c := c) hA hB hI (by omega))
      have HWh : Hid (∀ W, Below w.heap.size w W → Calls Try.prog 128 #[.slice A ws.length c] W fun e w' => e = .returned (.bool (wholeB (NW ws) (PW ws) ws.length)) ∧ Below W.heap.size W w') := Lib.hid fun W hW => isWhole_c ((AtC.of (c := c) hA hB hI).later hW) (by omega)
      have HE : Hid (chkW ws = (!(ws.any foreignB) && wholeB (NW ws) (PW ws) ws.length)) := Lib.hid (by unfold chkW; rw [decide_eq_true (by omega)]; rfl)
      clear hA hI h1 h2
      generalize chkW ws = ch at *
      generalize wholeB (NW ws) (PW ws) ws.length = wh at *
      generalize ws.any foreignB = fo at *
      generalize ws.length = len at *
      cases fo with
      | true =>
        have HE2 : Hid (errOf ch = 7) := Lib.hid (by rw [HE.out]; rfl)
        clear HE HWh
        go_enter Try.func63, Try.ntmps63
        go_wp2_with fail
        refine HF.out.mono ?_
        rintro e w2 ⟨rfl, hb2⟩
        go_wp2
        go_ret
        exact ⟨ret_int HE2.out.symm, hb2⟩
      | false =>
        cases wh with
        | true =>
          have HE2 : Hid (errOf ch = 0) := Lib.hid (by rw [HE.out]; rfl)
          clear HE
          go_enter Try.func63, Try.ntmps63
          go_wp2_with fail
          refine HF.out.mono ?_
          rintro e w2 ⟨rfl, hb2⟩
          go_wp2_with fail
          refine (HWh.out _ hb2).mono ?_
          rintro e w3 ⟨rfl, hb3⟩
          have hB3 := Below.next hb2 hb3
          go_wp2
          go_ret
          exact ⟨ret_int HE2.out.symm, hB3⟩
        | false =>
          have HE2 : Hid (errOf ch = 7) := Lib.hid (by rw [HE.out]; rfl)
          clear HE
          go_enter Try.func63, Try.ntmps63
          go_wp2_with fail
          refine HF.out.mono ?_
          rintro e w2 ⟨rfl, hb2⟩
          go_wp2_with fail
          refine (HWh.out _ hb2).mono ?_
          rintro e w3 ⟨rfl, hb3⟩
          have hB3 := Below.next hb2 hb3
          go_wp2
          go_ret
          exact ⟨ret_int HE2.out.symm, hB3⟩
end Go.Proofs.Ytkoelbdmpnelhaa
