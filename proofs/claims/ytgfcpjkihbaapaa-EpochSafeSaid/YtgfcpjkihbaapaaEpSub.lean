/- A list of numbers that lies in a block of a law's own, maybe behind the block's start; append at it. -/
import Derived.Test.YtgfcpjkihbaapaaEpMem
import Derived.Test.YtgfcpjkihbaapaaClkNew
import Derived.ArgAppend
namespace Go.Proofs.Ytgfcpjkihbaapaa
open Go.RowKit

theorem drop_of_get {α : Type} {L : List α} {j : Nat} {z : α} (h : L[j]? = some z) : L.drop j = z :: L.drop (j + 1) := by
  obtain ⟨hj, rfl⟩ := List.getElem?_eq_some_iff.1 h
  exact List.drop_eq_getElem_cons hj
def SubRow (w : World) (v : Value) (xs : List Int) : Prop :=
  (v = .slice none 0 0 ∧ xs = []) ∨ ∃ g off cap cur, v = .slice (some ⟨g, off, none⟩) xs.length cap ∧ w.heap[g]? = some (.cells cur 3 (0, 0)) ∧ xs.length ≤ cap ∧ off + cap ≤ cur.size ∧ cap ≤ maxLen ∧ ∀ j z, xs[j]? = some z → cur[off + j]? = some (.int .i64 z)
section
variable {w w' : World} {v : Value} {xs : List Int}
theorem SubRow.nil (w : World) : SubRow w (.slice none 0 0) [] := .inl ⟨rfl, rfl⟩
theorem SubRow.same (h : SubRow w v xs) (hs : ∀ g, v.ownBlock = some g → w'.heap[g]? = w.heap[g]?) : SubRow w' v xs := by
  rcases h with h | ⟨g, off, cap, cur, rfl, h1, h2⟩
  · exact .inl h
  · exact .inr ⟨g, off, cap, cur, rfl, (hs g rfl).trans h1, h2⟩
theorem SubRow.lt (h : SubRow w v xs) {g : Nat} (hg : v.ownBlock = some g) : g < w.heap.size := by
  rcases h with ⟨rfl, _⟩ | ⟨g', off, cap, cur, rfl, h1, _⟩
  · cases hg
  · have : g' = g := by injection hg
    subst this
    exact (Array.getElem?_eq_some_iff.1 h1).1
theorem SubRow.form (h : SubRow w v xs) : ∃ A c, v = .slice A xs.length c ∧ xs.length ≤ c ∧ c ≤ maxLen ∧ Rd (Value.int .i64) w w.heap.size A xs := by
  rcases h with ⟨rfl, rfl⟩ | ⟨g, off, cap, cur, rfl, h1, h2, h3, h4, h5⟩
  · exact ⟨none, 0, rfl, Nat.le_refl _, Nat.zero_le _, Rd.nil⟩
  · refine ⟨_, cap, rfl, h2, h4, fun j z hj => ⟨g, off, rfl, (Array.getElem?_eq_some_iff.1 h1).1, ?_⟩⟩
    rw [cell_of_row _ _ _ _ _ _ h1]
    exact h5 j z hj
theorem SubRow.of_own {base : Nat} (h : w.ownsRow base 3 1 v xs.length (xs.map (Value.int .i64))) : SubRow w v xs := by
  rcases h.2 with ⟨rfl, h0⟩ | ⟨g, cap, cur, rfl, _, h1, h2, h3, h4, h5⟩
  · exact .inl ⟨rfl, List.length_eq_zero_iff.1 h0⟩
  · refine .inr ⟨g, 0, cap, cur, rfl, h1, h2, by omega, h3, fun j z hj => ?_⟩
    have hj2 : (xs.map (Value.int .i64))[j]? = some (.int .i64 z) := by rw [List.getElem?_map, hj]; rfl
    rw [← h5] at hj2
    have hlt : j < xs.length := (List.getElem?_eq_some_iff.1 hj).1
    rw [List.getElem?_take_of_lt (by omega)] at hj2
    rw [Nat.zero_add]
    simpa using hj2
/-- Its tail. -/
theorem SubRow.tail {z : Int} {r : List Int} (h : SubRow w v (z :: r)) : ∃ g off cap, v = .slice (some ⟨g, off, none⟩) (r.length + 1) (cap + 1) ∧ r.length ≤ cap ∧ cap + 1 ≤ maxLen ∧ w.cell? ⟨g, off, none⟩ = some (.int .i64 z) ∧
    SubRow w (.slice (some ⟨g, off + 1, none⟩) r.length cap) r := by
  rcases h with ⟨_, h⟩ | ⟨g, off, cap, cur, rfl, h1, h2, h3, h4, h5⟩
  · cases h
  · obtain ⟨c, rfl⟩ : ∃ c, cap = c + 1 := ⟨cap - 1, by rw [List.length_cons] at h2; omega⟩
    rw [List.length_cons] at h2
    refine ⟨g, off, c, rfl, by omega, h4, ?_, .inr ⟨g, off + 1, c, cur, rfl, h1, by omega, by omega, by omega, fun j z hj => ?_⟩⟩
    · rw [cell_of_row _ _ _ _ _ _ h1]
      exact h5 0 z rfl
    · have := h5 (j + 1) z (by simpa using hj)
      rw [show off + 1 + j = off + (j + 1) by omega]
      exact this
/-- .. as slicing leaves it: where nothing of the capacity is left the address stays. -/
theorem SubRow.cut1 {g o p : Nat} {r : List Int} (h : SubRow w (.slice (some ⟨g, o + 1, none⟩) r.length p) r) {sl sc : Nat} (h1 : r.length + 1 = sl) (h2 : p + 1 = sc) :
    SubRow w (.slice (if sc = 1 then some ⟨g, o, none⟩ else some ⟨g, o + 1, none⟩) (sl - 1) (sc - 1)) r := by
  subst h1 h2
  by_cases e : p = 0
  · subst e
    rw [if_pos rfl]
    rcases h with ⟨h, _⟩ | ⟨g', off, cap, cur, h, h1, h2, h3, h4, h5⟩
    · injection h with h; cases h
    · injection h with h h6 h7
      injection h with h
      injection h with h h8
      subst h h7
      have hr : r = [] := List.length_eq_zero_iff.1 (by omega)
      subst hr
      exact .inr ⟨g, o, 0, cur, rfl, h1, Nat.le_refl _, by omega, Nat.zero_le _, fun j z hj => by cases hj⟩
  · rw [if_neg (by omega)]
    exact h
set_option maxRecDepth 100000 in
theorem SubRow.append (h : SubRow w v xs) (ty : TypeId) (ad : Addr) (z : Int) (hz : w.cell? ad = some (.int .i64 z)) (hl : xs.length ≤ 100000) :
    ∃ A c w', (Builtin.append_ #[38, 38] ty #[v, .slice (some ad) 1 1]).run Try.prog w = .ok (.slice A (xs.length + 1) c) w' ∧ SubRow w' (.slice A (xs.length + 1) c) (xs ++ [z]) ∧ Chg (fun b => v.ownBlock = some b) w w' ∧
      ∀ g, (Value.slice A (xs.length + 1) c).ownBlock = some g → v.ownBlock = some g ∨ (w.heap.size ≤ g ∧ g < w'.heap.size) := by
  obtain ⟨i0, hi0, hz0, hz1, hz2⟩ := info_parts info_int
  have hl1 : (xs ++ [z]).length = xs.length + 1 := by rw [List.length_append]; rfl
  have hnews : ∀ j u, [Value.int .i64 z][j]? = some u → w.cell? (ad.add j) = some u := fun j u hj => by
    match j, hj with
    | 0, hj => simp at hj; subst hj; simpa [Addr.add] using hz
  have hone : ∀ u ∈ [Value.int .i64 z], u.oneCell' = true := fun u hu => by simp at hu; subst hu; rfl
  rcases h with ⟨rfl, rfl⟩ | ⟨g, off, cap, cur, rfl, h1, h2, h3, h4, h5⟩
  · obtain ⟨gg, c, w', r1, r2, r3, r4, r5⟩ := run_append_lies (P := Try.prog) w 38 ty w.heap.size 3 i0 (.int .i64 0) 1 8 Try.underlying38 hi0 hz0 hz1 hz2 rfl (by decide) (.slice none 0 0) 0 [] (World.ownsRow_nil _ _ _ _) ad 1 1 [.int .i64 z] rfl hnews hone (by decide) (by unfold maxLen; omega) (by omega) (Nat.le_refl _) _ rfl
    refine ⟨_, c, w', r1, SubRow.of_own (xs := [z]) r2, ⟨r3.os, r3.tape, r3.output, r3.size, fun b hb hn => r3.block b hb (fun e => hn e.symm)⟩, fun g hg => ?_⟩
    have : gg = g := by injection hg
    subst this
    rcases r4 with r4 | r4
    · cases r4
    · exact .inr ⟨by omega, r5⟩
  · by_cases hr : xs.length + 1 ≤ cap
    · have hcell : ∀ o, w.cell? ⟨g, o, none⟩ = cur[o]? := fun o => cell_of_row _ _ _ _ _ _ h1
      have hlt : off + xs.length < cur.size := by omega
      have hrun := run_append_room_cells (P := Try.prog) w 38 ty 3 i0 Try.underlying38 hi0 g off xs.length cap ad 1 1 [.int .i64 z] (by rw [hz1]; rfl) hnews hone hr
        (fun j hj => by
          have : j = 0 := by simpa using hj
          subst this
          rw [hz1, Nat.mul_one, Nat.add_zero, hcell, Array.getElem?_eq_getElem hlt]
          rfl)
        (fun j hj => by
          simp only [World.frozen?]
          rw [h1]
          simp)
      rw [hz1, Nat.mul_one] at hrun
      have hw : w.setCells g (off + xs.length) [.int .i64 z] = w.setCell ⟨g, off + xs.length, none⟩ (.int .i64 z) := rfl
      rw [hw] at hrun
      refine ⟨_, cap, _, hrun, .inr ⟨g, off, cap, cur.setIfInBounds (off + xs.length) (.int .i64 z), by rw [hl1], heap_setCell_same w g _ cur _ _ h1, by omega, by simpa using h3, h4, fun j y hj => ?_⟩, Chg.setCell (M := fun b => (Value.slice (some ⟨g, off, none⟩) xs.length cap).ownBlock = some b) (b := g) (o := off + xs.length) Chg.refl rfl (.int .i64 z), fun g' hg' => .inl hg'⟩
      rcases Nat.lt_or_ge j xs.length with hj1 | hj1
      · rw [List.getElem?_append_left hj1] at hj
        rw [Array.getElem?_setIfInBounds_ne (by omega)]
        exact h5 j y hj
      · rw [List.getElem?_append_right hj1] at hj
        have hj0 : j - xs.length = 0 := by
          have := (List.getElem?_eq_some_iff.1 hj).1
          simpa using this
        rw [hj0] at hj
        injection hj with hj
        rw [show off + j = off + xs.length by omega, Array.getElem?_setIfInBounds_self_of_lt hlt, hj]
    · obtain ⟨v', w', hrun, r1, r2⟩ := run_append_arg_grows (P := Try.prog) w 38 ty 3 i0 (.int .i64 0) 1 8 Try.underlying38 hi0 hz0 hz1 hz2 rfl (by decide) ⟨g, off, none⟩ xs.length cap (xs.map (Value.int .i64)) (by simp)
        (fun j u hj => by
          rw [List.getElem?_map] at hj
          cases hx : xs[j]? with
          | none => rw [hx] at hj; cases hj
          | some y =>
            rw [hx] at hj
            injection hj with hj
            rw [Addr.add_lit, cell_of_row _ _ _ _ _ _ h1, h5 j y hx, hj]) ad 1 1 [.int .i64 z] rfl hnews (by omega) (by unfold maxLen; omega) (by omega)
      obtain ⟨A, c, rfl, _, _⟩ := ownSlice r1
      have r1' : w'.ownsRow w.heap.size 3 1 (.slice A (xs.length + 1) c) (xs ++ [z]).length ((xs ++ [z]).map (Value.int .i64)) := by
        rw [hl1, List.map_append]
        exact r1
      refine ⟨A, c, w', hrun, ?_, ⟨r2.os, r2.tape, r2.output, r2.size, fun b hb _ => r2.block b hb (fun e => by cases e)⟩, fun g' hg' => .inr ?_⟩
      · have := SubRow.of_own r1'
        exact this
      · obtain ⟨g, rfl, q1, q2⟩ := ownPos r1 (by omega)
        have : g = g' := by injection hg'
        subst this
        exact ⟨q1, q2⟩
/-- What append leaves. -/
def AppOut (w : World) (v : Value) (xs : List Int) (z : Int) (v' : Value) (w' : World) : Prop :=
  SubRow w' v' (xs ++ [z]) ∧ Chg (fun b => v.ownBlock = some b) w w' ∧ ∀ g, v'.ownBlock = some g → v.ownBlock = some g ∨ (w.heap.size ≤ g ∧ g < w'.heap.size)
theorem wpList_append_sub {ops : Array Oper} {rest : List Oper} {o : Oper} {a : Act} {Q : Exit → Act → World → Prop} (hgd : o.guard = none) (s x : Operand)
    (ho : o.op = .call { callee := .builtin .append, args := #[s, x], argTypes := #[38, 38] })
    (v : Value) (xs : List Int) (hs : a.eval s = v) (h : SubRow w v xs) (ad : Addr) (z : Int) (hx : a.eval x = .slice (some ad) 1 1) (hz : w.cell? ad = some (.int .i64 z)) (hl : xs.length ≤ 100000) (n : Nat) (hn : xs.length = n)
    (hK : ∀ A c w', Hid (AppOut w v xs z (.slice A (n + 1) c) w') → wpList Try.prog ops Q rest (a.put o.dst (.slice A (n + 1) c)) w') : wpList Try.prog ops Q (o :: rest) a w := by
  subst hn
  refine wpList_plain hgd fun _ hK2 => ?_
  obtain ⟨A, c, w', hr, h1, h2, h3⟩ := h.append o.type ad z hz hl
  unfold Oper.wp execOp
  simp only [ho, resolve, invoke, builtin, Sem.run_bind, Sem.run_pure, Result.andThen_ok, List.map_toArray, List.map_cons, List.map_nil, hs, hx, hr]
  exact hK2 _ _ (hK A c w' ⟨h1, h2, h3⟩)
end

end Go.Proofs.Ytgfcpjkihbaapaa
