/- arena's has, State, Gen, Count, follows, set, Move, by contract. -/
import Derived.Test.YtoaikdnooafjmaaArMem
import Derived.Deep.RegionHeld3
import Derived.Deep.DeepCutAuto
import Derived.Handy
namespace Go.Proofs.Ytoaikdnooafjmaa
open Go.RowKit

section
variable {w : World} {B bs : Nat} {fv : Value} {st gn fr : List Nat} {cn : Nat → Int}
theorem arHas_any (h : ArC w B bs fv st gn fr cn) (v : Int) :
    Calls Try.prog 146 #[.pointer (some ⟨B, 0, none⟩), .int .i64 v] w fun e w' => e = .returned (.bool (decide (1 ≤ v ∧ v ≤ (st.length : Int)))) ∧ w = w' := by
  have c0 := h.c0
  clear h
  have HR : Hid (decide (1 ≤ v ∧ v ≤ (st.length : Int)) = true ↔ 1 ≤ v ∧ v ≤ (st.length : Int)) := Lib.hid decide_eq_true_iff
  generalize decide (1 ≤ v ∧ v ≤ (st.length : Int)) = b at *
  by_cases h1 : 1 ≤ v
  · by_cases h2 : v ≤ (st.length : Int)
    · have HR := Lib.hid (show b = true from HR.out.2 ⟨h1, h2⟩)
      go_enter Try.func146, Try.ntmps146
      go_wp2
      go_ret
      exact ⟨ret_bool HR.out.symm, rfl⟩
    · have HR := Lib.hid (show b = false from Bool.eq_false_iff.2 (fun h => h2 (HR.out.1 h).2))
      go_enter Try.func146, Try.ntmps146
      go_wp2
      go_ret
      exact ⟨ret_bool HR.out.symm, rfl⟩
  · have HR := Lib.hid (show b = false from Bool.eq_false_iff.2 (fun h => h1 (HR.out.1 h).1))
    go_enter Try.func146, Try.ntmps146
    go_wp2
    go_ret
    exact ⟨ret_bool HR.out.symm, rfl⟩
theorem arHas_nil (v : Int) (w : World) : Calls Try.prog 146 #[.pointer none, .int .i64 v] w fun e w' => e = .returned (.bool false) ∧ w = w' := by
  go_enter Try.func146, Try.ntmps146
  go_wp2
  go_ret
  exact ⟨rfl, rfl⟩
theorem arSt_nil (v : Int) (w : World) : Calls Try.prog 68 #[.pointer none, .int .i64 v] w fun e w' => e = .returned (.int .i64 (-1)) ∧ w = w' := by
  go_enter Try.func68, Try.ntmps68
  go_wp2_with fail
  refine (arHas_nil v w).mono ?_
  rintro e w1 ⟨rfl, rfl⟩
  go_wp2
  go_ret
  exact ⟨rfl, rfl⟩
theorem arGn_nil (v : Int) (w : World) : Calls Try.prog 70 #[.pointer none, .int .i64 v] w fun e w' => e = .returned (.int .i64 (-1)) ∧ w = w' := by
  go_enter Try.func70, Try.ntmps70
  go_wp2_with fail
  refine (arHas_nil v w).mono ?_
  rintro e w1 ⟨rfl, rfl⟩
  go_wp2
  go_ret
  exact ⟨rfl, rfl⟩
theorem arCnt_nil (v : Int) (w : World) : Calls Try.prog 72 #[.pointer none, .int .i64 v] w fun e w' => e = .returned (.int .i64 0) ∧ w = w' := by
  go_enter Try.func72, Try.ntmps72
  go_wp2
  go_ret
  exact ⟨rfl, rfl⟩
theorem arFree_nil (v : Int) (w : World) : Calls Try.prog 67 #[.pointer none, .int .i64 v] w fun e w' => e = .returned (.bool false) ∧ w = w' := by
  go_enter Try.func67, Try.ntmps67
  go_wp2_with fail
  refine (arSt_nil v w).mono ?_
  rintro e w1 ⟨rfl, rfl⟩
  go_wp2
  go_ret
  exact ⟨rfl, rfl⟩
theorem follows_any (f t : Int) (w : World) : Calls Try.prog 145 #[.int .i64 f, .int .i64 t] w fun e w' => e = .returned (.bool (arNext f t)) ∧ w = w' := by
  have HR : Hid (arNext f t = decide ((f = 1 ∧ t = 2) ∨ (f = 2 ∧ t = 3) ∨ (f = 3 ∧ t = 4))) := Lib.hid rfl
  generalize arNext f t = b at *
  by_cases h1 : f = 1
  · subst h1
    by_cases h2 : t = 2
    · subst h2
      have HR2 := Lib.hid (show b = true from HR.out.trans (by decide))
      go_enter Try.func145, Try.ntmps145
      go_wp2
      go_ret
      exact ⟨ret_bool HR2.out.symm, rfl⟩
    · have HR2 := Lib.hid (show b = false from HR.out.trans (decide_eq_false (by omega)))
      have h3 : (t == 2) = false := by simpa using h2
      go_enter Try.func145, Try.ntmps145
      go_wp2
      go_ret
      exact ⟨ret_bool HR2.out.symm, rfl⟩
  by_cases h2 : f = 2
  · subst h2
    by_cases h2 : t = 3
    · subst h2
      have HR2 := Lib.hid (show b = true from HR.out.trans (by decide))
      go_enter Try.func145, Try.ntmps145
      go_wp2
      go_ret
      exact ⟨ret_bool HR2.out.symm, rfl⟩
    · have HR2 := Lib.hid (show b = false from HR.out.trans (decide_eq_false (by omega)))
      have h3 : (t == 3) = false := by simpa using h2
      go_enter Try.func145, Try.ntmps145
      go_wp2
      go_ret
      exact ⟨ret_bool HR2.out.symm, rfl⟩
  by_cases h3 : f = 3
  · subst h3
    by_cases h2 : t = 4
    · subst h2
      have HR2 := Lib.hid (show b = true from HR.out.trans (by decide))
      go_enter Try.func145, Try.ntmps145
      go_wp2
      go_ret
      exact ⟨ret_bool HR2.out.symm, rfl⟩
    · have HR2 := Lib.hid (show b = false from HR.out.trans (decide_eq_false (by omega)))
      have h3 : (t == 4) = false := by simpa using h2
      go_enter Try.func145, Try.ntmps145
      go_wp2
      go_ret
      exact ⟨ret_bool HR2.out.symm, rfl⟩
  · have HR2 := Lib.hid (show b = false from HR.out.trans (decide_eq_false (by omega)))
    go_enter Try.func145, Try.ntmps145
    go_wp2
    go_ret
    exact ⟨ret_bool HR2.out.symm, rfl⟩
theorem arMove_nil (v t : Int) (w : World) : Calls Try.prog 65 #[.pointer none, .int .i64 v, .int .i64 t] w fun e w' => e = .returned (.bool false) ∧ w = w' := by
  have hn : arNext (-1) t = false := decide_eq_false (by omega)
  have HF := Lib.hid (follows_any (-1) t w)
  rw [hn] at HF
  clear hn
  go_enter Try.func65, Try.ntmps65
  go_wp2_with fail
  refine (arSt_nil v w).mono ?_
  rintro e w1 ⟨rfl, rfl⟩
  go_wp2_with fail
  refine HF.out.mono ?_
  rintro e w1 ⟨rfl, rfl⟩
  go_wp2
  go_ret
  exact ⟨rfl, rfl⟩
theorem arAlloc_nil (w : World) : Calls Try.prog 63 #[.pointer none] w fun e w' => e = .returned (.tuple #[.agg #[.int .i64 0, .int .i64 0], .bool false]) ∧ Below w.heap.size w w' := by
  go_enter Try.func63, Try.ntmps63
  go_wp2
  have q0 : (w.alloc (.cells #[.int .i64 0, .int .i64 0] 99)).cell? ⟨w.heap.size, 0, none⟩ = some (.int .i64 0) := by go_cell
  have q1 : (w.alloc (.cells #[.int .i64 0, .int .i64 0] 99)).cell? ⟨w.heap.size, 1, none⟩ = some (.int .i64 0) := by go_cell
  exact bodyPost_ret (v := .tuple #[.agg #[.int .i64 0, .int .i64 0], .bool false]) (by simp [results, Try.results63, go_sem, q0, q1]) rfl ⟨rfl, (Below.refl _ w).alloc (Nat.le_refl _) _⟩
theorem arState_any (h : ArC w B bs fv st gn fr cn) {x : AR} (hx : x.st = st) (hfew : st.length ≤ 4096) (v : Int) : Calls Try.prog 68 #[.pointer (some ⟨B, 0, none⟩), .int .i64 v] w fun e w' => e = .returned (.int .i64 (arSt x v)) ∧ w = w' := by
  subst hx
  have HH := Lib.hid (arHas_any h v)
  cases hh : arHas x v with
  | false =>
    have HX : arSt x v = -1 := by unfold arSt; rw [hh]; rfl
    rw [HX]
    rw [show decide (1 ≤ v ∧ v ≤ (x.st.length : Int)) = false from hh] at HH
    clear h hh HX
    go_enter Try.func68, Try.ntmps68
    go_wp2_with fail
    refine HH.out.mono ?_
    rintro e w1 ⟨rfl, rfl⟩
    go_wp2
    go_ret
    exact ⟨rfl, rfl⟩
  | true =>
    rw [show decide (1 ≤ v ∧ v ≤ (x.st.length : Int)) = true from hh] at HH
    obtain ⟨k, rfl, hk⟩ := arHas_nat hh
    rw [arSt_in hk]
    have r1 := (h.sl k hk).1.1
    have c0 := h.c0
    have hk0 : (0 : Int) ≤ (k : Int) := by omega
    have hk1 : (k : Int) < (x.st.length : Int) := by omega
    have hk2 : (k : Int) + 1 - 1 = (k : Int) := by omega
    have hk3 : (k : Int) < 4096 := by omega
    generalize x.st.getD k 0 = r at *
    clear h hh
    go_enter Try.func68, Try.ntmps68
    go_wp2_with fail
    refine HH.out.mono ?_
    rintro e w1 ⟨rfl, rfl⟩
    go_wp2
    go_ret
    exact ⟨rfl, rfl⟩
theorem arGen_any (h : ArC w B bs fv st gn fr cn) {x : AR} (hx : x.st = st) (hg : x.gn = gn) (hfew : st.length ≤ 4096) (v : Int) : Calls Try.prog 70 #[.pointer (some ⟨B, 0, none⟩), .int .i64 v] w fun e w' => e = .returned (.int .i64 (arGn x v)) ∧ w = w' := by
  subst hx hg
  have HH := Lib.hid (arHas_any h v)
  cases hh : arHas x v with
  | false =>
    have HX : arGn x v = -1 := by unfold arGn; rw [hh]; rfl
    rw [HX]
    rw [show decide (1 ≤ v ∧ v ≤ (x.st.length : Int)) = false from hh] at HH
    clear h hh HX
    go_enter Try.func70, Try.ntmps70
    go_wp2_with fail
    refine HH.out.mono ?_
    rintro e w1 ⟨rfl, rfl⟩
    go_wp2
    go_ret
    exact ⟨rfl, rfl⟩
  | true =>
    rw [show decide (1 ≤ v ∧ v ≤ (x.st.length : Int)) = true from hh] at HH
    obtain ⟨k, rfl, hk⟩ := arHas_nat hh
    rw [arGn_in hk]
    have r1 := (h.sl k hk).2.1
    have c0 := h.c0
    have hk0 : (0 : Int) ≤ (k : Int) := by omega
    have hk1 : (k : Int) < (x.st.length : Int) := by omega
    have hk2 : (k : Int) + 1 - 1 = (k : Int) := by omega
    have hk3 : (k : Int) < 4096 := by omega
    generalize x.gn.getD k 0 = r at *
    clear h hh
    go_enter Try.func70, Try.ntmps70
    go_wp2_with fail
    refine HH.out.mono ?_
    rintro e w1 ⟨rfl, rfl⟩
    go_wp2
    go_ret
    exact ⟨rfl, rfl⟩
theorem arCount_in (h : ArC w B bs fv st gn fr cn) {j : Nat} (hj : j < 5) : Calls Try.prog 72 #[.pointer (some ⟨B, 0, none⟩), .int .i64 (j : Int)] w fun e w' => e = .returned (.int .i64 (cn j)) ∧ w = w' := by
  have r := (h.cc j hj).1
  have h0 : (0 : Int) ≤ (j : Int) := by omega
  have h1 : (j : Int) < 5 := by omega
  generalize cn j = c at *
  clear h
  go_enter Try.func72, Try.ntmps72
  go_wp2
  go_ret
  exact ⟨rfl, rfl⟩
theorem arCount_out (B : Nat) (w : World) {v : Int} (hv : v < 0 ∨ 5 ≤ v) : Calls Try.prog 72 #[.pointer (some ⟨B, 0, none⟩), .int .i64 v] w fun e w' => e = .returned (.int .i64 0) ∧ w = w' := by
  rcases hv with h1 | h1
  · go_enter Try.func72, Try.ntmps72
    go_wp2
    go_ret
    exact ⟨rfl, rfl⟩
  · have h2 : ¬ v < 0 := by omega
    go_enter Try.func72, Try.ntmps72
    go_wp2
    go_ret
    exact ⟨rfl, rfl⟩
set_option maxRecDepth 100000 in
set_option maxHeartbeats 2000000 in
theorem arSet_any (h : ArC w B bs fv st gn fr cn) {k o s : Nat} (hk : k < st.length) (hl : gn.length = st.length) (hfew : st.length ≤ 4096) (ho : st.getD k 0 = o) (ho5 : o < 5) (hs5 : s < 5) (hos : o ≠ s) (hc1 : 0 ≤ cn o ∧ cn o ≤ 4096) (hc2 : 0 ≤ cn s ∧ cn s ≤ 4096) :
    Calls Try.prog 144 #[.pointer (some ⟨B, 0, none⟩), .int .i64 ((k : Int) + 1), .int .i64 (s : Int)] w fun e w' => e = .returned (.tuple #[]) ∧ ArC w' B bs fv (st.set k s) gn fr (updN (updN cn o (cn o - 1)) s (cn s + 1)) ∧ Chg (fun b => b = B ∨ b = bs) w w' := by
  have c0 := h.c0
  obtain ⟨r1, r2⟩ := (h.sl k hk).1
  rw [ho] at r1
  obtain ⟨d1, d2⟩ := h.cc o ho5
  have hk0 : (0 : Int) ≤ (k : Int) := by omega
  have hk1 : (k : Int) < (st.length : Int) := by omega
  have hk2 : (k : Int) + 1 - 1 = (k : Int) := by omega
  have hk3 : (k : Int) < 4096 := by omega
  have ho0 : (0 : Int) ≤ (o : Int) := by omega
  have ho1 : (o : Int) < 5 := by omega
  have hs0 : (0 : Int) ≤ (s : Int) := by omega
  have hs1 : (s : Int) < 5 := by omega
  have HA := Lib.hid (h.setCnt ho5 (cn o - 1)).drew
  have HC : Hid (Chg (fun b => b = B ∨ b = bs) w (w.setCell ⟨B, 2 + o, none⟩ (.int .i64 (cn o - 1))).drew) := Lib.hid ((Chg.refl.setCell (.inl rfl) _).drew)
  have HS := Lib.hid (show updN cn o (cn o - 1) s = cn s by unfold updN; rw [if_neg (fun e => hos e.symm)])
  clear h
  obtain ⟨co, hco⟩ : ∃ c, cn o = c := ⟨_, rfl⟩
  obtain ⟨cs, hcs⟩ : ∃ c, cn s = c := ⟨_, rfl⟩
  rw [hco] at HA HC d1 hc1 HS
  rw [hcs] at hc2 HS
  rw [hco, hcs]
  clear hco hcs
  generalize updN cn o (co - 1) = cn2 at *
  go_enter Try.func144, Try.ntmps144
  go_upto_region 1 with (fail)
  go_region
  generalize (w.setCell ⟨B, 2 + o, none⟩ (.int .i64 (co - 1))).drew = V at *
  clear c0 r1 r2 d1 d2
  have c0 := HA.out.c0
  obtain ⟨r1, r2⟩ := (HA.out.sl k hk).1
  have HA2 := Lib.hid (HA.out.setSlot hk hl (v := s) (.inl ⟨rfl, rfl, rfl⟩))
  have HC2 := Lib.hid (HC.out.setCell (b := bs) (o := k * 2) (.inr rfl) (.int .i64 (s : Int)))
  have hk' : k < (st.set k s).length := by rw [List.length_set]; exact hk
  clear HA HC
  go_upto_region 3 with (fail)
  generalize V.setCell ⟨bs, k * 2, none⟩ (.int .i64 (s : Int)) = V2 at *
  clear c0 r1 r2
  obtain ⟨r1, r2⟩ := (HA2.out.sl k hk').1
  rw [getD_set, if_pos ⟨rfl, hk⟩] at r1
  obtain ⟨d1, d2⟩ := HA2.out.cc s hs5
  rw [HS.out] at d1
  have HA3 := Lib.hid (HA2.out.setCnt hs5 (cs + 1)).drew
  have HC3 := Lib.hid (HC2.out.setCell (b := B) (o := 2 + s) (.inl rfl) (.int .i64 (cs + 1))).drew
  clear HA2 HC2
  go_region
  go_wp2
  exact bodyPost_end (results_none rfl _ _ _) rfl ⟨rfl, HA3.out, HC3.out⟩
end

end Go.Proofs.Ytoaikdnooafjmaa
