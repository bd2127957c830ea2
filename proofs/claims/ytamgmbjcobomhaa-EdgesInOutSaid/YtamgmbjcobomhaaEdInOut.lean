/- In and out (the law of 9.4), walked: plain maths, and the walk. -/
import Derived.Test.YtamgmbjcobomhaaEdLives
namespace Go.Proofs.Ytamgmbjcobomhaa
open Go.RowKit Go.Shelf

theorem hasI_with (zs : List Int) (n x : Int) : hasI (withI zs n) x = (hasI zs x || decide (x = n)) := by
  rw [Bool.eq_iff_iff, hasI_iff, Bool.or_eq_true, hasI_iff, decide_eq_true_iff]
  unfold withI
  split
  · rename_i h
    rw [hasI_iff] at h
    constructor
    · exact .inl
    · rintro (h1 | rfl)
      · exact h1
      · exact h
  · simp
theorem hasI_without (zs : List Int) (n x : Int) : hasI (withoutI zs n) x = (hasI zs x && decide (¬ x = n)) := by
  rw [Bool.eq_iff_iff, hasI_iff, Bool.and_eq_true, hasI_iff]
  unfold withoutI
  rw [List.mem_filter]
theorem without_with (zs : List Int) (n : Int) : withoutI (withI zs n) n = withoutI zs n := by
  unfold withI
  split
  · rfl
  · unfold withoutI
    simp
theorem with_len (zs : List Int) (n : Int) : (withI zs n).length ≤ zs.length + 1 := by
  unfold withI
  split <;> simp
theorem right_without (zs : List Int) (n self links level slots : Int) (h : rightB zs self links level slots = true) : rightB (withoutI zs n) self links level slots = true := by
  rw [rightB_iff] at *
  refine ⟨?_, ?_, ?_⟩
  · have := withoutI_len zs n; omega
  · exact h.2.1.filter _
  · intro z hz
    exact h.2.2 z (List.mem_filter.1 hz).1
theorem right_with (zs : List Int) (n self links level slots : Int) (h : rightB zs self links level slots = true) :
    rightB (withI zs n) self links level slots = true ↔ ((hasI zs n = true ∨ (zs.length : Int) < mostZ links level) ∧ goodN self slots n) := by
  have h0 := (rightB_iff _ _ _ _ _).1 h
  by_cases hn : hasI zs n = true
  · have hw : withI zs n = zs := if_pos hn
    rw [hw]
    exact ⟨fun _ => ⟨.inl hn, h0.2.2 n ((hasI_iff _ _).1 hn)⟩, fun _ => h⟩
  · have hw : withI zs n = zs ++ [n] := if_neg hn
    have hm : ¬ n ∈ zs := fun k => hn ((hasI_iff _ _).2 k)
    rw [hw, rightB_iff]
    constructor
    · intro k
      have hl := k.1
      rw [List.length_append] at hl
      simp only [List.length_cons, List.length_nil] at hl
      exact ⟨.inr (by omega), k.2.2 n (by simp)⟩
    · rintro ⟨hl, hg⟩
      have hl := hl.resolve_left hn
      refine ⟨?_, ?_, ?_⟩
      · rw [List.length_append]; simp only [List.length_cons, List.length_nil]; omega
      · rw [List.nodup_append]
        exact ⟨h0.2.1, by simp, fun a ha b hb e => by simp at hb; subst hb; subst e; exact hm ha⟩
      · intro z hz
        rcases List.mem_append.1 hz with hz | hz
        · exact h0.2.2 z hz
        · simp at hz; subst hz; exact hg

/-- How the last line's questions can stand. -/
inductive Ways (hn : Bool) (len most n self slots : Int) (ra : Bool) : Prop
  | inRoom : hn = true → len < most → ¬ n = self → 1 ≤ n → n ≤ slots → ra = true → Ways hn len most n self slots ra
  | inFull : hn = true → ¬ len < most → ¬ n = self → 1 ≤ n → n ≤ slots → ra = true → Ways hn len most n self slots ra
  | full : hn = false → ¬ len < most → ra = false → Ways hn len most n self slots ra
  | itself : hn = false → len < most → n = self → ra = false → Ways hn len most n self slots ra
  | low : hn = false → len < most → ¬ n = self → n < 1 → ra = false → Ways hn len most n self slots ra
  | high : hn = false → len < most → ¬ n = self → 1 ≤ n → slots < n → ra = false → Ways hn len most n self slots ra
  | good : hn = false → len < most → ¬ n = self → 1 ≤ n → n ≤ slots → ra = true → Ways hn len most n self slots ra
theorem ways (zs : List Int) (n self links level slots : Int) (h : rightB zs self links level slots = true) : Ways (hasI zs n) zs.length (mostZ links level) n self slots (rightB (withI zs n) self links level slots) := by
  have hr := right_with zs n self links level slots h
  have no : ¬ ((hasI zs n = true ∨ (zs.length : Int) < mostZ links level) ∧ goodN self slots n) → rightB (withI zs n) self links level slots = false := fun k => by
    cases e : rightB (withI zs n) self links level slots
    · rfl
    · exact absurd (hr.1 e) k
  cases hn : hasI zs n
  · rw [hn] at no hr
    by_cases h1 : (zs.length : Int) < mostZ links level
    · by_cases h2 : n = self
      · exact .itself rfl h1 h2 (no fun k => k.2.2.2 h2)
      · by_cases h3 : n < 1
        · exact .low rfl h1 h2 h3 (no fun k => by have := k.2.1; omega)
        · by_cases h4 : slots < n
          · exact .high rfl h1 h2 (by omega) h4 (no fun k => by have := k.2.2.1; omega)
          · exact .good rfl h1 h2 (by omega) (by omega) (hr.2 ⟨.inr h1, by omega, by omega, h2⟩)
    · exact .full rfl h1 (no fun k => by simp [h1] at k)
  · have hg : goodN self slots n := ((rightB_iff _ _ _ _ _).1 h).2.2 n ((hasI_iff _ _).1 hn)
    rw [hn] at hr
    by_cases h1 : (zs.length : Int) < mostZ links level
    · exact .inRoom rfl h1 hg.2.2 hg.1 hg.2.1 (hr.2 ⟨.inl rfl, hg⟩)
    · exact .inFull rfl h1 hg.2.2 hg.1 hg.2.1 (hr.2 ⟨.inl rfl, hg⟩)

set_option maxRecDepth 100000 in
set_option maxHeartbeats 8000000 in
theorem EdgesInOut_walk (A : Option Addr) (zs : List Int) (c : Nat) (n m self links level slots : Int) (w : World) (hA : Rd (Value.int .i64) w w.heap.size A zs) (hl : zs.length ≤ 9223372036854775807) (hc : zs.length ≤ c) (hcA : A = none → c = 0) :
    Calls Try.prog 9 #[.slice A zs.length c, .int .i64 n, .int .i64 m, .int .i64 self, .int .i64 links, .int .i64 level, .int .i64 slots] w fun e w' => e = .returned (.bool true) ∧ Below w.heap.size w w' := by
  by_cases hlong : 200 < zs.length
  · have hli : (200 : Int) < (zs.length : Int) := by omega
    clear hA hcA
    go_enter Try.func9, Try.ntmps9
    go_wp2_with fail
    refine (edges_lives_any _).mono ?_
    rintro e w1 ⟨rfl, hb⟩
    go_wp2
    go_ret
    exact ⟨rfl, hb⟩
  · have HC := Lib.hid hcA
    have HA := Lib.hid hA
    have hcA2 := hcA
    clear hcA hA hcA2
    go_enter Try.func9, Try.ntmps9
    go_wp2_with fail
    refine (edges_lives_any _).mono ?_
    rintro e w1 ⟨rfl, hb⟩
    have HB := Lib.hid hb
    have hA1 := (HA.out.below hb).more hb.size
    have HA1 := Lib.hid hA1
    clear hb hA1 HA
    go_wp2_with fail
    refine (With_any A zs c n _ HA1.out (by omega) HC.out).mono ?_
    have hwl := with_len zs n
    have ha1 : hasI (withI zs n) n = true := by rw [hasI_with]; simp
    have ha2 : ∀ x, ¬ x = n → hasI (withI zs n) x = hasI zs x := fun x hx => by rw [hasI_with]; simp [hx]
    have hab : withoutI (withI zs n) n = withoutI zs n := without_with zs n
    have hwy : rightB zs self links level slots = true → Ways (hasI zs n) zs.length (mostZ links level) n self slots (rightB (withI zs n) self links level slots) := ways zs n self links level slots
    have Ha1 := Lib.hid ha1
    have Ha2 := Lib.hid ha2
    have Hab := Lib.hid hab
    have Hwy := Lib.hid hwy
    clear ha1 ha2 hab hwy
    generalize withI zs n = a at *
    rintro e w2 ⟨A2, c2, rfl, hr2, _, hc2, _, hb2⟩
    have HB2 := Lib.hid (HB.out.trans (hb2.mono HB.out.size))
    have HA2 := Lib.hid hr2
    have HL2 := Lib.hid ((HA1.out.below hb2).more hb2.size)
    clear HB HA1 hr2 hb2
    go_wp2_with fail
    refine (Without_any A2 a c2 n _ HA2.out (by omega)).mono ?_
    rw [Hab.out]
    have hb1 : hasI (withoutI zs n) n = false := by rw [hasI_without]; simp
    have hb2 : ∀ x, ¬ x = n → hasI (withoutI zs n) x = hasI zs x := fun x hx => by rw [hasI_without]; simp [hx]
    have hrb : rightB zs self links level slots = true → rightB (withoutI zs n) self links level slots = true := right_without zs n self links level slots
    have hll := withoutI_len zs n
    have Hb1 := Lib.hid hb1
    have Hb2 := Lib.hid hb2
    have Hrb := Lib.hid hrb
    have Hwo : Hid (∀ (W : World), Rd (Value.int .i64) W W.heap.size A zs → Calls Try.prog 49 #[.slice A zs.length c, .int .i64 n] W (IntsOut (withoutI zs n) W)) := Lib.hid fun W h => Without_any A zs c n W h (by omega)
    clear hb1 hb2 hrb Hab
    generalize withoutI zs n = b at *
    rintro e w3 ⟨A3, c3, rfl, hr3, _, hc3, _, hb3⟩
    have HB3 := Lib.hid (HB2.out.trans (hb3.mono HB2.out.size))
    have HA3 := Lib.hid hr3
    have HAA := Lib.hid ((HA2.out.below hb3).more hb3.size)
    have HL3 := Lib.hid ((HL2.out.below hb3).more hb3.size)
    clear HB2 HA2 HL2 hr3 hb3
    go_wp2_with fail
    refine Calls.mono (Has_is rfl Ha1.out HAA.out (by omega)) ?_
    rintro e w' ⟨rfl, rfl⟩
    go_wp2_with fail
    refine Calls.mono (Has_is rfl Hb1.out HA3.out (by omega)) ?_
    rintro e w' ⟨rfl, rfl⟩
    clear Ha1 Hb1
    go_wp2_with fail
    refine (Hwo.out _ HL3.out).mono ?_
    rintro e w4 ⟨A4, c4, rfl, hr4, _, _, _, hb4⟩
    have HB4 := Lib.hid (HB3.out.trans (hb4.mono HB3.out.size))
    have HA4 := Lib.hid ((HA3.out.below hb4).more hb4.size)
    have HAB := Lib.hid ((HAA.out.below hb4).more hb4.size)
    have HL4 := Lib.hid ((HL3.out.below hb4).more hb4.size)
    have HR4 := Lib.hid hr4
    clear HB3 HA3 HAA HL3 hr4 hb4 Hwo
    go_wp2_with fail
    refine Calls.mono (SameI_is rfl HA4.out HR4.out (by omega)) ?_
    rintro e w5 ⟨rfl, hb5⟩
    have HB5 := Lib.hid (HB4.out.trans (hb5.mono HB4.out.size))
    have HA5 := Lib.hid ((HA4.out.below hb5).more hb5.size)
    have HAC := Lib.hid ((HAB.out.below hb5).more hb5.size)
    have HL5 := Lib.hid ((HL4.out.below hb5).more hb5.size)
    clear HB4 HA4 HAB HL4 HR4 hb5
    by_cases hmn : m = n
    case' pos =>
      have hnm := hmn.symm
      clear hmn
      subst hnm
    case' neg =>
      obtain ⟨t, ht⟩ : ∃ t, hasI zs m = t := ⟨_, rfl⟩
      have H0 := Lib.hid ht
      have H1 := Lib.hid ((Ha2.out m hmn).trans ht)
      have H2 := Lib.hid ((Hb2.out m hmn).trans ht)
      clear ht
      go_wp2_with fail
      refine Calls.mono (Has_is rfl H1.out HAC.out (by omega)) ?_
      rintro e w' ⟨rfl, rfl⟩
      go_wp2_with fail
      refine Calls.mono (Has_is rfl H0.out HL5.out (by omega)) ?_
      rintro e w' ⟨rfl, rfl⟩
      go_wp2_with fail
      refine Calls.mono (Has_is rfl H2.out HA5.out (by omega)) ?_
      rintro e w' ⟨rfl, rfl⟩
      go_wp2_with fail
      refine Calls.mono (Has_is rfl H0.out HL5.out (by omega)) ?_
      rintro e w' ⟨rfl, rfl⟩
      clear H0 H1 H2
    all_goals
      clear Ha2 Hb2
      cases hr : rightB zs self links level slots
      · have HR := Lib.hid hr
        clear hr
        go_wp2_with fail
        refine Calls.mono (Right_is rfl HR.out HL5.out (by omega) hc) ?_
        rintro e w' ⟨rfl, rfl⟩
        go_wp2
        go_ret
        exact ⟨rfl, HB5.out⟩
      · have HR := Lib.hid hr
        clear hr
        go_wp2_with fail
        refine Calls.mono (Right_is rfl HR.out HL5.out (by omega) hc) ?_
        rintro e w' ⟨rfl, rfl⟩
        have H6 := Lib.hid (Hrb.out HR.out)
        have hw := Hwy.out HR.out
        clear Hwy Hrb HR
        obtain ⟨ra, hra⟩ : ∃ r, rightB a self links level slots = r := ⟨_, rfl⟩
        obtain ⟨hn, hhn⟩ : ∃ r, hasI zs n = r := ⟨_, rfl⟩
        obtain ⟨most, hmost⟩ : ∃ r, mostZ links level = r := ⟨_, rfl⟩
        rw [hra, hhn, hmost] at hw
        have HRA := Lib.hid hra
        have HHN := Lib.hid hhn
        have HMO := Lib.hid hmost
        clear hra hhn hmost
        rcases hw with ⟨rfl, h1, h2, h3, h4, rfl⟩ | ⟨rfl, h1, h2, h3, h4, rfl⟩ | ⟨rfl, h1, rfl⟩ | ⟨rfl, h1, rfl, rfl⟩ | ⟨rfl, h1, h2, h3, rfl⟩ | ⟨rfl, h1, h2, h3, h4, rfl⟩ | ⟨rfl, h1, h2, h3, h4, rfl⟩
        all_goals
          go_wp2_with (first
            | (go_at_call 42; (with_reducible refine Calls.mono (Most_is HMO.out _) ?_); rintro e w' ⟨rfl, rfl⟩)
            | (go_at_call 44; (with_reducible refine Calls.mono (Has_is rfl HHN.out HL5.out ?_) ?_); (focus (omega)); rintro e w' ⟨rfl, rfl⟩)
            | (go_at_call 51; (with_reducible refine Calls.mono (Right_is rfl H6.out HA5.out ?_ ?_) ?_); (focus (omega)); (focus (omega)); rintro e w' ⟨rfl, rfl⟩)
            | (go_at_call 51; (with_reducible refine Calls.mono (Right_is rfl HRA.out HAC.out ?_ ?_) ?_); (focus (omega)); (focus (omega)); rintro e w' ⟨rfl, rfl⟩))
          go_ret
          exact ⟨ret_bool (by first | rfl | (simp; omega)), HB5.out⟩

end Go.Proofs.Ytamgmbjcobomhaa
