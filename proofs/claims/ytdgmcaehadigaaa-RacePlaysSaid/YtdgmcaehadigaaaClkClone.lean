/- Numbers that a call leaves in memory of its own; slices.Clone of numbers, by contract. -/
import Derived.Test.YtdgmcaehadigaaaOwn
import Derived.Laws.AppendOwnNone
namespace Go.Proofs.Ytdgmcaehadigaaa
open Go.RowKit

/-- Numbers that a call leaves, in memory of its own. -/
def IntsOut (L : List Int) (w : World) (e : Ending) (w' : World) : Prop :=
  ∃ A c, e = .returned (.slice A L.length c) ∧ Rd (Value.int .i64) w' w'.heap.size A L ∧ (A = none → c = 0) ∧ L.length ≤ c ∧ c ≤ 9223372036854775807 ∧ Below w.heap.size w w'
theorem IntsOut.of_own {L : List Int} {w w' : World} {v : Value} {base : Nat} (h : w'.ownsRow base 3 1 v L.length (L.map (Value.int .i64))) (hb : Below w.heap.size w w') : IntsOut L w (.returned v) w' := by
  obtain ⟨A, c, rfl, hc, hm⟩ := ownSlice h
  refine ⟨A, c, rfl, Rd.of_own h, fun hA => ?_, hc, hm, hb⟩
  subst hA
  rcases h.2 with ⟨hv, _⟩ | ⟨g, cap, cur, hv, _⟩
  · injection hv
  · injection hv with hv; cases hv

theorem info_int : (Try.prog.info? 3).map (fun i => (i.zero, i.size, i.bytes)) = some (some (.int .i64 0), 1, 8) := by kernel_rfl

/-- Numbers that are read, cell by cell, from an address. -/
theorem Rd.news {w : World} {B : Nat} {ad : Addr} {zs : List Int} (h : Rd (Value.int .i64) w B (some ad) zs) : ∀ j u, (zs.map (Value.int .i64))[j]? = some u → w.cell? (ad.add j) = some u := by
  intro j u hj
  rw [List.getElem?_map] at hj
  cases hz : zs[j]? with
  | none => rw [hz] at hj; cases hj
  | some z =>
    rw [hz] at hj
    injection hj with hj
    subst hj
    obtain ⟨b, off, he, _, hc⟩ := h j z hz
    injection he with he
    subst he
    rw [show Addr.add ⟨b, off, none⟩ j = ⟨b, off + j, none⟩ from by simp [Addr.add]]
    exact hc
theorem Rd.none_nil {α : Type} {f : α → Value} {w : World} {B : Nat} {zs : List α} (h : Rd f w B none zs) : zs = [] := by
  cases zs with
  | nil => rfl
  | cons z r =>
    obtain ⟨_, _, he, _⟩ := h 0 z rfl
    cases he
theorem ints_one {zs : List Int} : ∀ u ∈ zs.map (Value.int .i64), u.oneCell' = true := by
  intro u hu
  obtain ⟨x, _, rfl⟩ := List.mem_map.1 hu
  rfl

set_option maxHeartbeats 2000000 in
theorem Clone_any (A : Option Addr) (zs : List Int) (c : Nat) (w : World) (hA : Rd (Value.int .i64) w w.heap.size A zs) (hl : zs.length ≤ 100000) (hcA : A = none → c = 0) :
    Calls Try.prog 132 #[.slice A zs.length c] w (IntsOut zs w) := by
  obtain ⟨i0, hi0, hz0, hz1, hz2⟩ := info_parts info_int
  cases A with
  | none =>
    have hn := hA.none_nil
    subst hn
    obtain rfl := hcA rfl
    have q : ∀ (w : World) (a : Option Addr) (n c n' c' : Nat), (binOp .eql 38 (.slice a n c) (.slice none n' c')).run Try.prog w = .ok (.bool a.isNone) w := fun w a n c n' c' => Lib.run_eql_slice_nil w _ _ a n c n' c' Try.underlying38
    go_enter Try.func132, Try.ntmps132
    go_wp2
    go_ret
    exact ⟨none, 0, rfl, Rd.nil, fun _ => rfl, by simp, by simp, Below.refl _ _⟩
  | some ad =>
    have q : ∀ (w : World) (a : Option Addr) (n c n' c' : Nat), (binOp .eql 38 (.slice a n c) (.slice none n' c')).run Try.prog w = .ok (.bool a.isNone) w := fun w a n c n' c' => Lib.run_eql_slice_nil w _ _ a n c n' c' Try.underlying38
    have hb0 : ∀ o, Below w.heap.size w (w.alloc o) := fun o => (Below.refl _ w).alloc (Nat.le_refl _) o
    clear hcA
    go_enter Try.func132, Try.ntmps132
    go_wp2_with (at_builtin; refine wpList_append_own _ rfl _ _ 38 rfl w.heap.size 3 i0 (.int .i64 0) 1 8 Try.underlying38 hi0 hz0 hz1 hz2 rfl (by decide) _ _ _ rfl (World.ownsRow_made w #[] 0 (Nat.le_refl _) (Nat.zero_le _) rfl) ad zs.length c (zs.map (Value.int .i64)) rfl ?c1 ?c2 ints_one ?c3 ?c4 ?c5 ?_)
    case c1 => simp
    case c2 => exact ((hA.below (hb0 _)).more (B' := w.heap.size) (Nat.le_refl _)).news
    case c3 => unfold maxLen; omega
    case c4 => omega
    case c5 => simp
    intro v' w1 hown hgrow _
    have hown2 : w1.ownsRow w.heap.size 3 1 v' zs.length (zs.map (Value.int .i64)) := by simpa using hown
    have hB : Below w.heap.size w w1 := (hb0 _).grown hgrow (by simp) (by intro k hk; simp [Value.ownBlock] at hk; omega)
    clear hown hgrow q hb0
    go_wp2
    go_ret
    exact IntsOut.of_own hown2 hB

end Go.Proofs.Ytdgmcaehadigaaa
