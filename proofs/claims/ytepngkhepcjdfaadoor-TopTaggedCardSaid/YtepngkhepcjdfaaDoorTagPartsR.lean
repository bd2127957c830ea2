/- The document's parts of a text. -/
import Derived.Test.YtepngkhepcjdfaaDoorTagCut
import Derived.Test.YtepngkhepcjdfaaDoorTagRows
namespace Go.Proofs.YtepngkhepcjdfaaDoor
open Go.RowKit

/-- The parts of a text; an empty one has none. -/
def partsB (s : ByteArray) : List ByteArray := if s.size = 0 then [] else cutAll s.size s

/-- Texts that a call leaves, in memory of its own. -/
def ListAre (L : List ByteArray) (w : World) (e : Ending) (w' : World) : Prop :=
  ∃ (A : Option Addr) (c : Nat), e = .returned (.slice A L.length c) ∧ Rd Value.string w' w'.heap.size A L ∧ Below w.heap.size w w'

/-- How far the parts have been told: pre are told, from f on it goes on; no plus from f to k. -/
def PartsAt (s : ByteArray) (f k : Nat) (pre : List ByteArray) : Prop :=
  (k ≤ s.size ∧ f ≤ k ∧ (∃ m, s.size - f ≤ m ∧ cutAll s.size s = pre ++ cutAll m (s.extract f s.size)) ∧ ∀ j (hj : j < s.size), f ≤ j → j < k → s[j] ≠ 43) ∨ (k = s.size + 1 ∧ cutAll s.size s = pre)

theorem PartsAt.start (s : ByteArray) : PartsAt s 0 0 [] := .inl ⟨Nat.zero_le _, Nat.le_refl _, ⟨s.size, by omega, by simp⟩, fun j _ _ h => by omega⟩
theorem PartsAt.skip {s : ByteArray} {f k : Nat} {pre : List ByteArray} (h : PartsAt s f k pre) (hk : k < s.size) (hn : s[k] ≠ 43) : PartsAt s f (k + 1) pre := by
  rcases h with ⟨_, h2, h3, h4⟩ | ⟨h1, _⟩
  · refine .inl ⟨hk, by omega, h3, fun j hj a b => ?_⟩
    by_cases e : j = k
    · subst e; exact hn
    · exact h4 j hj a (by omega)
  · omega
theorem PartsAt.plus {s : ByteArray} {f k : Nat} {pre : List ByteArray} (h : PartsAt s f k pre) (hk : k < s.size) (hn : s[k] = 43) : f ≤ k ∧ PartsAt s (k + 1) (k + 1) (pre ++ [s.extract f k]) := by
  rcases h with ⟨_, h2, ⟨m, hm, hc⟩, h4⟩ | ⟨h1, _⟩
  · obtain ⟨m', rfl⟩ : ∃ m', m = m' + 1 := ⟨m - 1, by omega⟩
    refine ⟨h2, .inl ⟨hk, Nat.le_refl _, ⟨m', by omega, ?_⟩, fun j _ a b => by omega⟩⟩
    rw [hc, cut_plus s f k m' h2 hk hn fun j hj a => h4 j (by omega) a hj, List.append_assoc]
    rfl
  · omega
theorem PartsAt.last {s : ByteArray} {f : Nat} {pre : List ByteArray} (h : PartsAt s f s.size pre) : f ≤ s.size ∧ PartsAt s (s.size + 1) (s.size + 1) (pre ++ [s.extract f s.size]) := by
  rcases h with ⟨_, h2, ⟨m, _, hc⟩, h4⟩ | ⟨h1, _⟩
  · exact ⟨h2, .inr ⟨rfl, by rw [hc, cut_end s f m fun j hj a => h4 j hj a hj]⟩⟩
  · omega

set_option maxRecDepth 100000 in
set_option maxHeartbeats 4000000 in
theorem refParts_any (s : ByteArray) (w : World) (hs : s.size ≤ 100000) :
    Calls Tryd.prog 26 #[.string s] w (ListAre (partsB s) w) := by
  by_cases h0 : s.size = 0
  · have HP := Lib.hid (show partsB s = [] from if_pos h0)
    obtain rfl := empty_of s h0
    clear h0 hs
    go_enter Tryd.func26, Tryd.ntmps26
    go_wp2
    go_ret
    exact ⟨none, 0, by rw [HP.out]; rfl, by rw [HP.out]; exact Rd.nil, Below.refl _ _⟩
  have HP := Lib.hid (show partsB s = cutAll s.size s from if_neg h0)
  have he := toList_ne s h0
  have he' : s.toList.isEmpty = false := by simpa using he
  obtain ⟨i0, hi0, hz0, hz1, hz2⟩ := info_parts info_str
  go_enter Tryd.func26, Tryd.ntmps26
  go_wp2
  go_loopw [3, 4, 5] (fun v f i wr => ∃ (k f' : Nat) (pre : List ByteArray), k ≤ s.size + 1 ∧ i = .int .i64 k ∧ f = .int .i64 f' ∧ pre.length ≤ k ∧ wr.ownsRow w.heap.size 9 1 v pre.length (pre.map Value.string) ∧ Hid (PartsAt s f' k pre) ∧ Below w.heap.size w wr)
    (fun _ _ i _ => s.size + 1 - (intOf i).toNat)
  case atStart => exact ⟨0, 0, [], by omega, rfl, rfl, Nat.le_refl _, World.ownsRow_nil _ _ _ _, PartsAt.start s, Below.refl _ _⟩
  case round =>
    obtain ⟨k, f, pre, hk, rfl, rfl, hpl, hown, HA, hbel⟩ := hrel
    have hb1 := hbel.size
    rcases Nat.lt_trichotomy k s.size with hlt | heq | hgt
    · by_cases hp : s[k] = 43
      · obtain ⟨hfk, hpa⟩ := HA.out.plus hlt hp
        have HN := Lib.hid hpa
        have hq : ((s[k].toNat : Int) == 43) = true := by rw [hp]; rfl
        have hkl : (k : Int) < (s.size : Int) := by omega
        have hke : ((k : Int) == (s.size : Int)) = false := by rw [beq_eq_false_iff_ne]; omega
        clear hpa hp
        go_wp2_with (at_builtin; refine wpList_append_own _ rfl _ _ 22 rfl w.heap.size 9 i0 (.string (ByteArray.mk #[])) 1 16 Tryd.underlying22 hi0 hz0 hz1 hz2 rfl (by decide) _ _ _ rfl (hown.alloc _) ⟨wr.heap.size, 0, none⟩ 1 1 [.string (s.extract f k)] rfl rfl ?c1 ?c2 ?c3 ?c4 ?c5 ?_)
        case c1 =>
          intro j u hj
          match j, hj with
          | 0, hj => simp at hj; subst hj; simp [Addr.add]
        case c2 => intro u hu; simp at hu; subst hu; rfl
        case c3 => unfold maxLen; omega
        case c4 => omega
        case c5 => simp; omega
        intro v' w2 hown2 hgrow _
        have hB := own_base (hown.alloc (.cells #[.string (s.extract f k)] 9)) (hbel.alloc hb1 _) (Nat.le_refl _) (by simp; omega) hgrow
        clear hgrow hown
        go_wp2
        go_roundw
        case rel => exact ⟨k + 1, k + 1, pre ++ [s.extract f k], by omega, by go_num, by go_num, by simp; omega, by simpa using hown2, HN.out, hB⟩
        case measure => simp [intOf]; omega
      · have HN := Lib.hid (HA.out.skip hlt hp)
        have hq : ((s[k].toNat : Int) == 43) = false := by
          rw [beq_eq_false_iff_ne]
          intro e
          exact hp (UInt8.toNat_inj.1 (by simpa using (by omega : s[k].toNat = 43)))
        have hkl : (k : Int) < (s.size : Int) := by omega
        have hke : ((k : Int) == (s.size : Int)) = false := by rw [beq_eq_false_iff_ne]; omega
        clear hp
        go_wp2
        go_roundw
        case rel => exact ⟨k + 1, f, pre, by omega, by go_num, rfl, by omega, hown, HN.out, hbel⟩
        case measure => simp [intOf]; omega
    · subst heq
      obtain ⟨hfk, hpa⟩ := HA.out.last
      have HN := Lib.hid hpa
      clear hpa
      go_wp2_with (at_builtin; refine wpList_append_own _ rfl _ _ 22 rfl w.heap.size 9 i0 (.string (ByteArray.mk #[])) 1 16 Tryd.underlying22 hi0 hz0 hz1 hz2 rfl (by decide) _ _ _ rfl (hown.alloc _) ⟨wr.heap.size, 0, none⟩ 1 1 [.string (s.extract f s.size)] rfl rfl ?c1 ?c2 ?c3 ?c4 ?c5 ?_)
      case c1 =>
        intro j u hj
        match j, hj with
        | 0, hj => simp at hj; subst hj; simp [Addr.add]
      case c2 => intro u hu; simp at hu; subst hu; rfl
      case c3 => unfold maxLen; omega
      case c4 => omega
      case c5 => simp; omega
      intro v' w2 hown2 hgrow _
      have hB := own_base (hown.alloc (.cells #[.string (s.extract f s.size)] 9)) (hbel.alloc hb1 _) (Nat.le_refl _) (by simp; omega) hgrow
      clear hgrow hown
      go_wp2
      go_roundw
      case rel => exact ⟨s.size + 1, s.size + 1, pre ++ [s.extract f s.size], by omega, by go_num, by go_num, by simp; omega, by simpa using hown2, HN.out, hB⟩
      case measure => simp [intOf]
    · have hkk : k = s.size + 1 := by omega
      have HE : Hid (cutAll s.size s = pre) := by
        rcases HA.out with ⟨h1, _⟩ | ⟨_, h2⟩
        · omega
        · exact h2
      go_wp2
      go_ret
      obtain ⟨A', c', rfl, _, _⟩ := own_slice hown
      exact ⟨A', c', by rw [HP.out, HE.out]; rfl, by rw [HP.out, HE.out]; exact Rd.of_own hown, hbel⟩

end Go.Proofs.YtepngkhepcjdfaaDoor
