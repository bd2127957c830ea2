/- Lists of numbers, as package edges handles them: Index, Contains, Has, Clone, Grow, Concat, Most, by contract. -/
import Derived.Test.YtajmnhnepoomjaaOwn
import Derived.Test.YtajmnhnepoomjaaShelf
import Derived.Laws.AppendOwnNone
namespace Go.Proofs.Ytajmnhnepoomjaa
open Go.RowKit Go.Shelf

/-- Is x in the list? -/
def hasI (zs : List Int) (x : Int) : Bool := decide (x ∈ zs)
theorem hasI_iff (zs : List Int) (x : Int) : hasI zs x = true ↔ x ∈ zs := by unfold hasI; exact decide_eq_true_iff
theorem hasI_not (zs : List Int) (x : Int) : hasI zs x = false ↔ ¬ x ∈ zs := by unfold hasI; exact decide_eq_false_iff_not

/-- None of the first k is x. -/
def NoneTo (zs : List Int) (x : Int) (k : Nat) : Prop := ∀ j, j < k → zs[j]? ≠ some x
theorem NoneTo.zero {zs : List Int} {x : Int} : NoneTo zs x 0 := fun j h => absurd h (Nat.not_lt_zero j)
theorem NoneTo.snoc {zs : List Int} {x y : Int} {k : Nat} (h : NoneTo zs x k) (hy : zs[k]? = some y) (hne : ¬ x = y) : NoneTo zs x (k + 1) := fun j hj => by
  rcases Nat.lt_succ_iff_lt_or_eq.1 hj with h1 | rfl
  · exact h j h1
  · rw [hy]; intro e; injection e with e; exact hne e.symm
theorem NoneTo.all {zs : List Int} {x : Int} (h : NoneTo zs x zs.length) : ¬ x ∈ zs := fun hm => by
  obtain ⟨j, hj, e⟩ := List.mem_iff_getElem.1 hm
  exact h j hj (by rw [List.getElem?_eq_getElem hj, e])

def IdxOut (zs : List Int) (x : Int) (w : World) (e : Ending) (w' : World) : Prop := ∃ r : Int, e = .returned (.int .i64 r) ∧ (0 ≤ r ↔ x ∈ zs) ∧ w = w'

set_option maxHeartbeats 1000000 in
theorem Index_any (A : Option Addr) (zs : List Int) (c : Nat) (x : Int) (w : World) {B : Nat} (hA : Rd (Value.int .i64) w B A zs) (hl : zs.length ≤ 9223372036854775807) :
    Calls Try.prog 146 #[.slice A zs.length c, .int .i64 x] w (IdxOut zs x w) := by
  go_enter Try.func146, Try.ntmps146
  go_wp2
  go_loop [8] (fun i => ∃ k : Nat, k ≤ zs.length ∧ i = .int .i64 k ∧ Hid (NoneTo zs x k)) (fun i => zs.length - (intOf i).toNat)
  case atStart => exact ⟨0, Nat.zero_le _, rfl, NoneTo.zero⟩
  case round =>
    obtain ⟨k, hk, rfl, HN⟩ := hrel
    by_cases hlt : k < zs.length
    · obtain ⟨b, off, rfl, hb, h0⟩ := hA k _ (List.getElem?_eq_getElem hlt)
      have HZ := Lib.hid (List.getElem?_eq_getElem hlt)
      have HM := Lib.hid (List.getElem_mem hlt)
      generalize zs[k] = z at *
      have hkl : (k : Int) < (zs.length : Int) := by omega
      have hk0 : (0 : Int) ≤ (k : Int) := by omega
      by_cases hx : x = z
      · subst hx
        go_wp2
        go_ret
        exact ⟨(k : Int), rfl, ⟨fun _ => HM.out, fun _ => hk0⟩, rfl⟩
      · go_wp2
        go_round
        case rel => exact ⟨k + 1, by omega, by go_num, HN.out.snoc HZ.out hx⟩
        case measure => simp [intOf]; omega
    · have HE : Hid (¬ x ∈ zs) := by
        obtain rfl : k = zs.length := by omega
        exact HN.out.all
      go_wp2
      go_ret
      exact ⟨-1, rfl, ⟨fun h => absurd h (by decide), fun h => absurd h HE.out⟩, rfl⟩

theorem Contains_any (A : Option Addr) (zs : List Int) (c : Nat) (x : Int) (w : World) {B : Nat} (hA : Rd (Value.int .i64) w B A zs) (hl : zs.length ≤ 9223372036854775807) :
    Calls Try.prog 106 #[.slice A zs.length c, .int .i64 x] w fun e w' => e = .returned (.bool (hasI zs x)) ∧ w = w' := by
  go_enter Try.func106, Try.ntmps106
  go_wp2_with fail
  refine (Index_any A zs c x _ hA hl).mono ?_
  rintro e w' ⟨r, rfl, hr, rfl⟩
  have HR := Lib.hid hr
  clear hr
  go_wp2
  go_ret
  exact ⟨ret_bool (by unfold hasI; exact decide_eq_decide.2 HR.out), rfl⟩

theorem Has_any (A : Option Addr) (zs : List Int) (c : Nat) (x : Int) (w : World) {B : Nat} (hA : Rd (Value.int .i64) w B A zs) (hl : zs.length ≤ 9223372036854775807) :
    Calls Try.prog 51 #[.slice A zs.length c, .int .i64 x] w fun e w' => e = .returned (.bool (hasI zs x)) ∧ w = w' := by
  go_enter Try.func51, Try.ntmps51
  go_wp2_with fail
  refine (Contains_any A zs c x _ hA hl).mono ?_
  rintro e w' ⟨rfl, rfl⟩
  go_wp2
  go_ret
  exact ⟨rfl, rfl⟩

/-- How many neighbours there may be. -/
def mostZ (links level : Int) : Int := if level = 0 then 2 * min (max links 1) 32 else min (max links 1) 32
theorem mostZ_le (links level : Int) : 1 ≤ mostZ links level ∧ mostZ links level ≤ 64 := by
  unfold mostZ
  split <;> omega

theorem Most_any (links level : Int) (w : World) :
    Calls Try.prog 145 #[.int .i64 links, .int .i64 level] w fun e w' => e = .returned (.int .i64 (mostZ links level)) ∧ w = w' := by
  by_cases h : level = 0
  · have hr : mostZ links level = 2 * min (max links 1) 32 := if_pos h
    have hb : 1 ≤ min (max links 1) 32 ∧ min (max links 1) 32 ≤ 32 := by omega
    rw [hr]; clear hr
    subst h
    obtain ⟨hb1, hb2⟩ := hb
    go_enter Try.func145, Try.ntmps145
    go_wp2
    go_ret
    exact ⟨ret_int (by first | rfl | (rw [IntWalk.i64_in _ (by omega)])), rfl⟩
  · have hr : mostZ links level = min (max links 1) 32 := if_neg h
    rw [hr]; clear hr
    go_enter Try.func145, Try.ntmps145
    go_wp2
    go_ret
    exact ⟨rfl, rfl⟩

/-- Numbers that a call leaves, in memory of its own. -/
def IntsOut (L : List Int) (w : World) (e : Ending) (w' : World) : Prop :=
  ∃ A c, e = .returned (.slice A L.length c) ∧ Rd (Value.int .i64) w' w'.heap.size A L ∧ (A = none → c = 0) ∧ L.length ≤ c ∧ c ≤ 9223372036854775807 ∧ Below w.heap.size w w'
theorem IntsOut.of_own {L : List Int} {w w' : World} {v : Value} {base : Nat} (h : w'.ownsRow base 3 1 v L.length (L.map (Value.int .i64))) (hb : Below w.heap.size w w') : IntsOut L w (.returned v) w' := by
  obtain ⟨A, c, rfl, hc, hm⟩ := ownSlice h
  refine ⟨A, c, rfl, Rd.of_own h, fun hA => ?_, hc, hm, hb⟩
  subst hA
  rcases h.2 with ⟨hv, _⟩ | ⟨g, cap, cur, hv, _⟩
  · injection hv
  · injection hv with hv; cases hv

theorem info_int : (Try.prog.info? 3).map (fun i => (i.zero, i.size, i.bytes)) = some (some (.int .i64 0), 1, 8) := by kernel_rfl

/-- Numbers that are read, cell by cell, from an address. -/
theorem Rd.news {w : World} {B : Nat} {ad : Addr} {zs : List Int} (h : Rd (Value.int .i64) w B (some ad) zs) : ∀ j u, (zs.map (Value.int .i64))[j]? = some u → w.cell? (ad.add j) = some u := by
  intro j u hj
  rw [List.getElem?_map] at hj
  cases hz : zs[j]? with
  | none => rw [hz] at hj; cases hj
  | some z =>
    rw [hz] at hj
    injection hj with hj
    subst hj
    obtain ⟨b, off, he, _, hc⟩ := h j z hz
    injection he with he
    subst he
    rw [show Addr.add ⟨b, off, none⟩ j = ⟨b, off + j, none⟩ from by simp [Addr.add]]
    exact hc
theorem Rd.none_nil {α : Type} {f : α → Value} {w : World} {B : Nat} {zs : List α} (h : Rd f w B none zs) : zs = [] := by
  cases zs with
  | nil => rfl
  | cons z r =>
    obtain ⟨_, _, he, _⟩ := h 0 z rfl
    cases he
theorem ints_one {zs : List Int} : ∀ u ∈ zs.map (Value.int .i64), u.oneCell' = true := by
  intro u hu
  obtain ⟨x, _, rfl⟩ := List.mem_map.1 hu
  rfl

set_option maxHeartbeats 2000000 in
theorem Clone_any (A : Option Addr) (zs : List Int) (c : Nat) (w : World) (hA : Rd (Value.int .i64) w w.heap.size A zs) (hl : zs.length ≤ 100000) (hcA : A = none → c = 0) :
    Calls Try.prog 144 #[.slice A zs.length c] w (IntsOut zs w) := by
  obtain ⟨i0, hi0, hz0, hz1, hz2⟩ := info_parts info_int
  cases A with
  | none =>
    have hn := hA.none_nil
    subst hn
    obtain rfl := hcA rfl
    have q : ∀ (w : World) (a : Option Addr) (n c n' c' : Nat), (binOp .eql 43 (.slice a n c) (.slice none n' c')).run Try.prog w = .ok (.bool a.isNone) w := fun w a n c n' c' => Lib.run_eql_slice_nil w _ _ a n c n' c' Try.underlying43
    go_enter Try.func144, Try.ntmps144
    go_wp2
    go_ret
    exact ⟨none, 0, rfl, Rd.nil, fun _ => rfl, by simp, by simp, Below.refl _ _⟩
  | some ad =>
    have q : ∀ (w : World) (a : Option Addr) (n c n' c' : Nat), (binOp .eql 43 (.slice a n c) (.slice none n' c')).run Try.prog w = .ok (.bool a.isNone) w := fun w a n c n' c' => Lib.run_eql_slice_nil w _ _ a n c n' c' Try.underlying43
    have hb0 : ∀ o, Below w.heap.size w (w.alloc o) := fun o => (Below.refl _ w).alloc (Nat.le_refl _) o
    clear hcA
    go_enter Try.func144, Try.ntmps144
    go_wp2_with (at_builtin; refine wpList_append_own _ rfl _ _ 43 rfl w.heap.size 3 i0 (.int .i64 0) 1 8 Try.underlying43 hi0 hz0 hz1 hz2 rfl (by decide) _ _ _ rfl (World.ownsRow_made w #[] 0 (Nat.le_refl _) (Nat.zero_le _) rfl) ad zs.length c (zs.map (Value.int .i64)) rfl ?c1 ?c2 ints_one ?c3 ?c4 ?c5 ?_)
    case c1 => simp
    case c2 => exact ((hA.below (hb0 _)).more (B' := w.heap.size) (Nat.le_refl _)).news
    case c3 => unfold maxLen; omega
    case c4 => omega
    case c5 => simp
    intro v' w1 hown hgrow _
    have hown2 : w1.ownsRow w.heap.size 3 1 v' zs.length (zs.map (Value.int .i64)) := by simpa using hown
    have hB : Below w.heap.size w w1 := (hb0 _).grown hgrow (by simp) (by intro k hk; simp [Value.ownBlock] at hk; omega)
    clear hown hgrow q hb0
    go_wp2
    go_ret
    exact IntsOut.of_own hown2 hB

end Go.Proofs.Ytajmnhnepoomjaa
