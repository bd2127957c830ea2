/- RngBack, the walk of the law: what was mixed is had back; no two numbers have one mix; another order has each number once. -/
import Derived.Test.YtbedlaggmlckdaaRngLives
namespace Go.Proofs.Ytbedlaggmlckdaa
open Go.RowKit

/-- A list of n numbers that has each number below n, at one place only. -/
def Each (n : Nat) (l : List Int) : Prop := l.length = n ∧ (∀ k, k < n → ∃ m : Nat, m < n ∧ l.getD k 0 = (m : Int)) ∧ ∀ a b, a < n → b < n → l.getD a 0 = l.getD b 0 → a = b

def turn (i j k : Nat) : Nat := if k = j then i else if k = i then j else k
theorem swapL_get (l : List Int) (i j k : Nat) (hi : i < l.length) (hj : j < l.length) : (swapL l i j).getD k 0 = l.getD (turn i j k) 0 := by
  unfold swapL turn
  simp only [List.getD_eq_getElem?_getD, List.getElem?_set, List.length_set]
  by_cases h1 : k = j
  · subst h1
    simp [hj]
  · rw [if_neg (fun h => h1 h.symm), if_neg h1]
    by_cases h2 : k = i
    · subst h2
      simp [hi]
    · rw [if_neg (fun h => h2 h.symm), if_neg h2]
theorem turn_lt (i j k n : Nat) (hi : i < n) (hj : j < n) (hk : k < n) : turn i j k < n := by
  unfold turn
  split
  · exact hi
  · split
    · exact hj
    · exact hk
theorem turn_inj (i j a b : Nat) (h : turn i j a = turn i j b) : a = b := by
  unfold turn at h
  split at h <;> split at h <;> (try split at h) <;> (try split at h) <;> omega
theorem Each.swap {n : Nat} {l : List Int} (h : Each n l) (i j : Nat) (hi : i < n) (hj : j < n) : Each n (swapL l i j) := by
  obtain ⟨h1, h2, h3⟩ := h
  subst h1
  refine ⟨swapL_length _ _ _, fun k hk => ?_, fun a b ha hb he => ?_⟩
  · rw [swapL_get l i j k hi hj]
    exact h2 _ (turn_lt _ _ _ _ hi hj hk)
  · rw [swapL_get l i j a hi hj, swapL_get l i j b hi hj] at he
    exact turn_inj i j a b (h3 _ _ (turn_lt _ _ _ _ hi hj ha) (turn_lt _ _ _ _ hi hj hb) he)
theorem Each.go {n : Nat} (s : BitVec 64) (i : Nat) : ∀ l, Each n l → (i < n ∨ i = 0) → Each n (permGo s i l) := by
  induction i with
  | zero => intro l h _; exact h
  | succ i ih =>
    intro l h hi
    have hb := bel_le s (i + 1)
    rw [permGo]
    exact ih _ (h.swap _ _ (by omega) (by omega)) (by omega)
theorem iotaL_get (n k : Nat) (h : k < n) : (iotaL n).getD k 0 = (k : Int) := by
  simp [iotaL, h]
theorem Each.iota (n : Nat) : Each n (iotaL n) :=
  ⟨iotaL_length n, fun k hk => ⟨k, hk, iotaL_get n k hk⟩, fun a b ha hb he => by rw [iotaL_get n a ha, iotaL_get n b hb] at he; omega⟩
theorem Each.perm (s : BitVec 64) (n : Nat) : Each n (permL s n) := Each.go s (n - 1) _ (Each.iota n) (by omega)

/-- What has been seen: of what comes from place k on, nothing. -/
def Unseen (n : Nat) (l : List Int) (k : Nat) (S : List Bool) : Prop := S.length = n ∧ ∀ j, k ≤ j → j < n → S.getD (l.getD j 0).toNat false = false
theorem Unseen.start (n : Nat) (l : List Int) : Unseen n l 0 (List.replicate n false) :=
  ⟨List.length_replicate, fun j _ _ => by
    rw [List.getD_eq_getElem?_getD, List.getElem?_replicate]
    split <;> rfl⟩
theorem Unseen.step {n : Nat} {l : List Int} {k m : Nat} {S : List Bool} (h : Unseen n l k S) (hl : Each n l) (hk : k < n) (hm : l.getD k 0 = (m : Int)) : Unseen n l (k + 1) (S.set m true) := by
  refine ⟨by rw [List.length_set, h.1], fun j h1 h2 => ?_⟩
  have h0 := h.2 j (by omega) h2
  obtain ⟨q, hq, he⟩ := hl.2.1 j h2
  have hne : q ≠ m := fun e => by
    have := hl.2.2 j k h2 hk (by rw [he, hm, e])
    omega
  rw [he, Int.toNat_natCast] at h0 ⊢
  rw [List.getD_eq_getElem?_getD, List.getElem?_set_ne (fun e => hne e.symm), ← List.getD_eq_getElem?_getD, h0]

theorem info_bool : (Try.prog.info? 4).map (fun i => (i.zero, i.size, i.bytes)) = some (some (.bool false), 1, 1) := by kernel_rfl
theorem made_bools {w : World} {B m c : Nat} {A : Option Addr} (h : w.ownsRow B 4 1 (.slice A m c) m (madeCells (Value.bool false).cells (m * 1)).toList) :
    w.ownsRow B 4 1 (.slice A m c) m ((List.replicate m false).map Value.bool) := by
  simpa [toList_madeCells_one, Value.cells] using h

/-- The calls of the law's first question, the numbers behind names of their own: mixed, mixed back. -/
theorem back_calls (x y : BitVec 64) : ∃ a b c : BitVec 64,
    Hid (∀ w, Calls Try.prog 11 #[.int .u64 x.toNat] w fun e w' => e = .returned (.int .u64 a.toNat) ∧ w = w') ∧
    Hid (∀ w, Calls Try.prog 13 #[.int .u64 a.toNat] w fun e w' => e = .returned (.int .u64 x.toNat) ∧ w = w') ∧
    Hid (∀ w, Calls Try.prog 13 #[.int .u64 x.toNat] w fun e w' => e = .returned (.int .u64 b.toNat) ∧ w = w') ∧
    Hid (∀ w, Calls Try.prog 11 #[.int .u64 b.toNat] w fun e w' => e = .returned (.int .u64 x.toNat) ∧ w = w') ∧
    Hid (∀ w, Calls Try.prog 11 #[.int .u64 y.toNat] w fun e w' => e = .returned (.int .u64 c.toNat) ∧ w = w') ∧
    ((a.toNat : Int) == (c.toNat : Int)) = ((x.toNat : Int) == (y.toNat : Int)) := by
  refine ⟨mixB x, unmixB x, mixB y, Mix_any x, ?_, Unmix_any x, ?_, Mix_any y, ?_⟩
  · intro w
    have h := Unmix_any (mixB x) w
    rw [unmix_mix] at h
    exact h
  · intro w
    have h := Mix_any (unmixB x) w
    rw [mix_unmix] at h
    exact h
  · rw [Bool.eq_iff_iff]
    simp only [beq_iff_eq]
    exact ⟨fun h => by rw [mix_inj x y (BitVec.eq_of_toNat_eq (by omega))], fun h => by rw [show x = y from BitVec.eq_of_toNat_eq (by omega)]⟩

set_option maxHeartbeats 2000000 in
theorem RngBack_walk (x y : BitVec 64) (many : Int) (w : World) :
    Calls Try.prog 4 #[.int .u64 x.toNat, .int .u64 y.toNat, .int .i64 many] w fun e w' => e = .returned (.bool true) ∧ Below w.heap.size w w' := by
  obtain ⟨i0, hi0, hz0, hz1, hz2⟩ := info_parts info_bool
  have hx := x.isLt
  have hy := y.isLt
  obtain ⟨ma, mb, mc, M1, U1, U2, M2, M3, hmeN⟩ := back_calls x y
  have HB := Lib.hid (fun w => Below_any x.toNat y.toNat w hx hy)
  have hlt0 : 0 < y.toNat → x.toNat * y.toNat / 18446744073709551616 < y.toNat := below_lt x.toNat y.toNat hx
  have HP := Lib.hid (fun w => Perm_any x many w)
  have HE := Lib.hid (Each.perm x (clampP many))
  have hpl := permL_length x (clampP many)
  generalize permL x (clampP many) = L at *
  generalize x.toNat * y.toNat / 18446744073709551616 = q at *
  generalize x.toNat = X at *
  generalize y.toNat = Y at *
  generalize ma.toNat = A at *
  generalize mb.toNat = B at *
  generalize mc.toNat = C at *
  clear hx hy
  obtain ⟨n, hn, hC, hcase⟩ := clampP_cases many
  rw [hC] at hpl HE
  clear hC
  have HLN := Lib.hid hpl
  clear hpl
  have hb8 : i0.bytes * n ≤ 281474976710656 := by rw [hz2]; omega
  have hml : n ≤ maxLen := by unfold maxLen; omega
  have hn0 : (0 : Int) ≤ (n : Int) := by omega
  have hn4 : (n : Int) ≤ 4096 := by omega
  go_enter Try.func4, Try.ntmps4
  go_wp2_with fail
  refine (rng_lives_any _).mono ?_
  rintro e w1 ⟨rfl, hb1⟩
  go_wp2_with fail
  refine (M1.out _).mono ?_
  rintro e w' ⟨rfl, rfl⟩
  go_wp2_with fail
  refine (U1.out _).mono ?_
  rintro e w' ⟨rfl, rfl⟩
  go_wp2_with fail
  refine (U2.out _).mono ?_
  rintro e w' ⟨rfl, rfl⟩
  go_wp2_with fail
  refine (M2.out _).mono ?_
  rintro e w' ⟨rfl, rfl⟩
  go_wp2_with fail
  refine (M1.out _).mono ?_
  rintro e w' ⟨rfl, rfl⟩
  go_wp2_with fail
  refine (M3.out _).mono ?_
  rintro e w' ⟨rfl, rfl⟩
  rcases Nat.eq_zero_or_pos Y with hY | hY
  case' inl =>
    have d0 : decide (0 < (Y : Int)) = false := decide_eq_false (by omega)
    have d1 : decide (0 < Y) = false := decide_eq_false (by omega)
    clear hY hlt0
    go_wp2_with fail
  case' inr =>
    have hq := hlt0 hY
    have d0 : decide (0 < (Y : Int)) = true := decide_eq_true (by omega)
    have d1 : decide (0 < Y) = true := decide_eq_true (by omega)
    have d2 : decide (Y ≤ q) = false := decide_eq_false (by omega)
    clear hlt0
    go_wp2_with fail
    refine (HB.out _).mono ?_
    rintro e w' ⟨rfl, rfl⟩
    go_wp2_with fail
  all_goals
    refine (HP.out _).mono ?_
    rintro e w2 ⟨P, c, rfl, hr, hb2⟩
    have hB2 := Below.next hb1 hb2
    clear hb1 hb2
    rw [HLN.out]
    rcases hcase with ⟨h2, h3⟩ | rfl | ⟨h2, h3⟩
    case' inl =>
      have hne : ((n : Int) != 0) = false := by simp [h3]
      clear h3
    case' inr.inr =>
      have hne : ((n : Int) != 4096) = false := by simp [h3]
      clear h3
    all_goals
      go_wp2_with (at_make; refine wpList_make_full _ rfl _ _ _ rfl w2.heap.size 4 i0 (.bool false) 1 Try.underlying31 hi0 hz0 hz1 _ _ _ _ n rfl rfl rfl rfl hb8 hml (Nat.le_refl _) ?_; intro w3 hown hgr)
      have hbel : Below w2.heap.size w2 w3 := (Below.refl _ _).grown hgr (Nat.le_refl _) (fun _ h => by cases h)
      have hown' := made_bools hown
      clear hgr hown
      go_loopw [61] (fun i wr => ∃ (k : Nat) (S : List Bool), k ≤ n ∧ i = .int .i64 k ∧ Hid (Unseen n L k S) ∧
          wr.ownsRow w2.heap.size 4 1 (.slice (some ⟨w2.heap.size, 0, none⟩) n n) n (S.map Value.bool) ∧ Below w2.heap.size w2 wr)
        (fun i _ => n - (intOf i).toNat)
      case atStart => exact ⟨0, _, Nat.zero_le _, rfl, Unseen.start n L, hown', hbel⟩
      case round =>
        obtain ⟨k, S, hk, rfl, HU, hown, hbel⟩ := hrel
        by_cases hlt : k < n
        · obtain ⟨b, off, rfl, hbl, hc⟩ := (hr.below hbel).at_ (k := k) (by have := HLN.out; omega)
          obtain ⟨m, hm, hme⟩ := HE.out.2.1 k hlt
          have hLk : L[k]'(by have := HLN.out; omega) = (m : Int) := by
            rw [← hme, List.getD_eq_getElem?_getD, List.getElem?_eq_getElem (by have := HLN.out; omega)]
            rfl
          rw [hLk] at hc
          clear hLk
          have HM := Lib.hid hme
          have HU2 := Lib.hid (HU.out.step HE.out hlt hme)
          have hsm : wr.cell? ⟨w2.heap.size, m, none⟩ = some (.bool false) := by
            have h0 := HU.out.2 k (Nat.le_refl _) hlt
            rw [hme, Int.toNat_natCast, List.getD_eq_getElem?_getD] at h0
            rw [hown.cellAt m (by omega), List.getElem?_map]
            have hS : m < S.length := by rw [HU.out.1]; exact hm
            rw [List.getElem?_eq_getElem hS] at h0 ⊢
            simp only [Option.getD_some] at h0
            rw [h0]
            rfl
          have hfr : wr.frozen? ⟨w2.heap.size, m, none⟩ = false := hown.frozenAt m
          have hst := hown.stored m (.bool true)
          clear hme
          have hkn : (k : Int) < (n : Int) := by omega
          have hmn : (m : Int) < (n : Int) := by omega
          have hm0 : (0 : Int) ≤ (m : Int) := by omega
          go_wp2
          go_roundw
          case rel =>
            have h3 := hst.1
            rw [← List.map_set] at h3
            exact ⟨k + 1, S.set m true, by omega, by go_num, HU2, h3, hbel.setCell (Nat.le_refl _) _⟩
          case measure => simp [intOf]; omega
        · go_wp2
          go_ret
          exact ⟨rfl, Below.next hB2 hbel⟩

end Go.Proofs.Ytbedlaggmlckdaa
