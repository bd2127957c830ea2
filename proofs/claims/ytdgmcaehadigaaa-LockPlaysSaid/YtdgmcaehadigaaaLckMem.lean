/- A table of mutexes in memory: its row, its two maps. -/
import Derived.Test.YtdgmcaehadigaaaLckPlain
import Derived.Test.YtdgmcaehadigaaaRacAt
import Derived.Maps.RangeWalk
namespace Go.Proofs.Ytdgmcaehadigaaa
open Go.RowKit Go.Maps Go.ChangeMaps Go.MapKept

/-- What a map's datum tells at a key. -/
def atO (D : DataW Value) (k : Int) : Option Int :=
  if Maps.has D (.int .i64 k) = true then match D.atKey (.int .i64 k) (.lit (.int .i64 0)) with | .lit (.int .i64 v) => some v | _ => none else none
/-- Block b is a map of at most n entries, from numbers to numbers; m tells what stands at a key, if something does. -/
def MapO (w : World) (b n : Nat) (m : Int → Option Int) : Prop :=
  ∃ D : DataW Value, w.ownsMap Try.prog 3 (plainElem Try.prog 3) b n D ∧ ∀ k, IsI k → atO D k = m k

theorem under_map : Try.prog.underlying 139 = some (.map 3 3) := Try.underlying139
theorem zero_int (w : World) : (zeroValue 3).run Try.prog w = .ok (.int .i64 0) w := by kernel_rfl

section
variable {w w' : World} {b n : Nat} {m : Int → Option Int}
theorem MapO.made (w : World) : MapO (w.alloc (.map #[] 0)) w.heap.size 0 (fun _ => none) :=
  ⟨.map [], World.ownsMap_made w _ _ _, fun _ _ => rfl⟩
theorem MapO.mono (h : MapO w b n m) {n' : Nat} (hn : n ≤ n') : MapO w b n' m := let ⟨D, h1, h2⟩ := h; ⟨D, h1.mono hn, h2⟩
theorem MapO.lt (h : MapO w b n m) : b < w.heap.size := let ⟨_, h1, _⟩ := h; h1.lt
theorem MapO.same (h : MapO w b n m) (hs : w'.heap[b]? = w.heap[b]?) : MapO w' b n m := by
  obtain ⟨D, ⟨es, clock, hb, r⟩, h2⟩ := h
  exact ⟨D, ⟨es, clock, hs.trans hb, r⟩, h2⟩
theorem MapO.not_cell (h : MapO w b n m) {c : Nat} {o : Nat} {v : Value} (hc : w.cell? ⟨c, o, none⟩ = some v) : c ≠ b := by
  obtain ⟨D, ⟨es, clock, hb, r⟩, h2⟩ := h
  intro e
  subst e
  simp [World.cell?, hb] at hc
theorem MapO.eq (h : MapO w b n m) {m' : Int → Option Int} (he : ∀ k, IsI k → m k = m' k) : MapO w b n m' := let ⟨D, h1, h2⟩ := h; ⟨D, h1, fun k hk => (h2 k hk).trans (he k hk)⟩
theorem MapO.look (h : MapO w b n m) {x : Int} (hx : IsI x) :
    (Instr.lookup 139 (.map (some b)) (.int .i64 x) true).run Try.prog w = .ok (.tuple #[.int .i64 ((m x).getD 0), .bool (m x).isSome]) w := by
  obtain ⟨D, h1, h2⟩ := h
  obtain ⟨v, ps, hrun, hv⟩ := h1.look_ok law_int under_map (zero_int w) (zd := .lit (.int .i64 0)) (zp := []) (plainElem_int Try.underlying3 (by decide)) (key_int hx)
  obtain ⟨a, rfl, hz, _⟩ := plainElem_int_inv Try.underlying3 hv
  have hd : D.atKey (.int .i64 x) (.lit (.int .i64 0)) = .lit (.int .i64 a) := congrArg Prod.fst hz
  rw [← h2 x hx, hrun]
  unfold atO
  cases hb : Maps.has D (.int .i64 x) with
  | true => rw [hd]; rfl
  | false =>
    have := atKey_of_not_has hb (.lit (.int .i64 0))
    rw [hd] at this
    have : a = 0 := by simpa using this
    subst this
    rfl
/-- A map, with v at x. -/
def putO (m : Int → Option Int) (x v : Int) : Int → Option Int := fun k => if k = x then some v else m k
def delO (m : Int → Option Int) (x : Int) : Int → Option Int := fun k => if k = x then none else m k
theorem lit_ne {k x : Int} (e : k ≠ x) : Lit.int .i64 k ≠ Lit.int .i64 x := fun h => e (by injection h)
theorem MapO.put (h : MapO w b n m) (hn : n < maxLen) {x v : Int} (hx : IsI x) (hv : IsI v) :
    ∃ w', (Instr.mapUpdate 139 (.map (some b)) (.int .i64 x) (.int .i64 v)).run Try.prog w = .ok () w' ∧ MapO w' b (n + 1) (putO m x v) ∧ w.mapTurned w' b := by
  obtain ⟨D, h1, h2⟩ := h
  obtain ⟨w', hrun, h3, h4⟩ := h1.store law_int under_map hn (d := .lit (.int .i64 v)) (ps := []) (key_int hx) (plainElem_int Try.underlying3 hv)
  refine ⟨w', hrun, ⟨_, h3, fun k hk => ?_⟩, h4⟩
  unfold putO atO
  by_cases e : k = x
  · subst e
    rw [if_pos rfl, has_put_same h1.isMap (show WideAt.IsKeyLit (.int .i64 k) from trivial), if_pos rfl, atKey_put_same h1.isMap (show WideAt.IsKeyLit (.int .i64 k) from trivial)]
  · rw [if_neg e, has_put_other (lit_ne e), atKey_put_other (lit_ne e)]
    exact h2 k hk
theorem MapO.drop (h : MapO w b n m) {x : Int} (hx : IsI x) :
    ∃ w', (∀ ty, (Builtin.delete_ #[139, 3] ty #[.map (some b), .int .i64 x]).run Try.prog w = .ok (.tuple #[]) w') ∧ MapO w' b n (delO m x) ∧ w.mapTurned w' b := by
  obtain ⟨D, h1, h2⟩ := h
  have hd := fun ty => h1.drop law_int under_map (key_int hx) ty
  obtain ⟨w', hrun, h3, h4⟩ := hd 0
  refine ⟨w', fun ty => ?_, ⟨_, h3, fun k hk => ?_⟩, h4⟩
  · exact hrun
  · unfold delO atO
    by_cases e : k = x
    · subst e
      rw [if_pos rfl, has_del_same]
      rfl
    · rw [if_neg e, has_del_other (lit_ne e), atKey_del_other (lit_ne e)]
      exact h2 k hk
end

/-- A table lies at B, its maps at bh and bw; it tells what x says. -/
structure Tab (w : World) (B bh bw n : Nat) (x : LX) : Prop where
  c0 : w.cell? ⟨B, 0, none⟩ = some (.map (some bh))
  c1 : w.cell? ⟨B, 1, none⟩ = some (.map (some bw))
  c2 : w.cell? ⟨B, 2, none⟩ = some (.bool x.up)
  f2 : w.frozen? ⟨B, 2, none⟩ = false
  mh : MapO w bh n (hold x.hs)
  mw : MapO w bw n (waitOf x.ws)
  ne : bh ≠ bw
def TabM (B bh bw : Nat) (b : Nat) : Prop := b = B ∨ b = bh ∨ b = bw
section
variable {w w' : World} {M : Nat → Prop} {B bh bw n : Nat} {x : LX}
theorem Tab.chg (h : Tab w B bh bw n x) (hc : Chg M w w') (hM : ∀ b, M b → ¬ TabM B bh bw b) (hB : B < w.heap.size) : Tab w' B bh bw n x := by
  have nB : ¬ M B := fun e => hM _ e (.inl rfl)
  exact ⟨(hc.cell (p := ⟨B, 0, none⟩) hB nB).trans h.c0, (hc.cell (p := ⟨B, 1, none⟩) hB nB).trans h.c1, (hc.cell (p := ⟨B, 2, none⟩) hB nB).trans h.c2, (hc.frozen (p := ⟨B, 2, none⟩) hB nB).trans h.f2,
    h.mh.same (hc.block _ h.mh.lt (fun e => hM _ e (.inr (.inl rfl)))), h.mw.same (hc.block _ h.mw.lt (fun e => hM _ e (.inr (.inr rfl)))), h.ne⟩
theorem cell_lt {p : Addr} {v : Value} (h : w.cell? p = some v) : p.block < w.heap.size := by
  unfold World.cell? at h
  cases hb : w.heap[p.block]? with
  | none => rw [hb] at h; simp at h
  | some o => exact (Array.getElem?_eq_some_iff.1 hb).1
theorem Tab.lt (h : Tab w B bh bw n x) : B < w.heap.size := cell_lt h.c0
theorem Tab.mlt (h : Tab w B bh bw n x) {b : Nat} (hb : TabM B bh bw b) : b < w.heap.size := by
  rcases hb with rfl | rfl | rfl
  · exact h.lt
  · exact h.mh.lt
  · exact h.mw.lt
theorem Tab.later (h : Tab w B bh bw n x) (hb : Below w.heap.size w w') : Tab w' B bh bw n x := h.chg (M := fun _ => False) (Chg.of_below hb) (fun _ e => e.elim) h.lt
theorem Tab.more (h : Tab w B bh bw n x) {n' : Nat} (hn : n ≤ n') : Tab w B bh bw n' x := { h with mh := h.mh.mono hn, mw := h.mw.mono hn }
theorem Tab.drew (h : Tab w B bh bw n x) : Tab w.drew B bh bw n x := ⟨h.c0, h.c1, h.c2, h.f2, h.mh.same rfl, h.mw.same rfl, h.ne⟩
end
/-- A nil table, or one that lies in memory. -/
def TabO (w : World) (p : Value) (x : LX) : Prop := (p = .pointer none ∧ x = ⟨[], [], false⟩) ∨ ∃ B bh bw n, p = .pointer (some ⟨B, 0, none⟩) ∧ Tab w B bh bw n x
theorem TabO.later {w w' : World} {p : Value} {x : LX} (h : TabO w p x) (hb : Below w.heap.size w w') : TabO w' p x := by
  rcases h with h | ⟨B, bh, bw, n, h1, h2⟩
  · exact .inl h
  · exact .inr ⟨B, bh, bw, n, h1, h2.later hb⟩

theorem lckWorker_any (x : Int) (w : World) : Calls Try.prog 87 #[.int .i64 x] w fun e w' => e = .returned (.bool (okW x)) ∧ w = w' := by
  by_cases h1 : 0 ≤ x
  · by_cases h2 : x ≤ 64
    · have HR := Lib.hid (show okW x = true from decide_eq_true ⟨h1, h2⟩)
      go_enter Try.func87, Try.ntmps87
      go_wp2
      go_ret
      exact ⟨ret_bool HR.out.symm, rfl⟩
    · have HR := Lib.hid (show okW x = false from decide_eq_false (fun h => h2 h.2))
      go_enter Try.func87, Try.ntmps87
      go_wp2
      go_ret
      exact ⟨ret_bool HR.out.symm, rfl⟩
  · have HR := Lib.hid (show okW x = false from decide_eq_false (fun h => h1 h.1))
    go_enter Try.func87, Try.ntmps87
    go_wp2
    go_ret
    exact ⟨ret_bool HR.out.symm, rfl⟩
theorem lckMutex_any (x : Int) (w : World) : Calls Try.prog 88 #[.int .i64 x] w fun e w' => e = .returned (.bool (okN x)) ∧ w = w' := by
  by_cases h1 : 0 ≤ x
  · by_cases h2 : x ≤ 4096
    · have HR := Lib.hid (show okN x = true from decide_eq_true ⟨h1, h2⟩)
      go_enter Try.func88, Try.ntmps88
      go_wp2
      go_ret
      exact ⟨ret_bool HR.out.symm, rfl⟩
    · have HR := Lib.hid (show okN x = false from decide_eq_false (fun h => h2 h.2))
      go_enter Try.func88, Try.ntmps88
      go_wp2
      go_ret
      exact ⟨ret_bool HR.out.symm, rfl⟩
  · have HR := Lib.hid (show okN x = false from decide_eq_false (fun h => h1 h.1))
    go_enter Try.func88, Try.ntmps88
    go_wp2
    go_ret
    exact ⟨ret_bool HR.out.symm, rfl⟩

theorem Holder_any {w : World} {p : Value} {x : LX} (h : TabO w p x) (k : Int) (hk : IsI k) :
    Calls Try.prog 27 #[p, .int .i64 k] w fun e w' => e = .returned (.tuple #[.int .i64 ((hold x.hs k).getD 0), .bool (hold x.hs k).isSome]) ∧ w = w' := by
  rcases h with ⟨rfl, rfl⟩ | ⟨B, bh, bw, n, rfl, h⟩
  · have HR := Lib.hid (show hold [] k = none from rfl)
    go_enter Try.func27, Try.ntmps27
    go_wp2
    go_ret2
    exact ⟨rfl, rfl⟩
  · have hc := h.c0
    have hlk := h.mh.look hk
    clear h hk
    generalize (hold x.hs k).getD 0 = v at *
    generalize (hold x.hs k).isSome = s at *
    go_enter Try.func27, Try.ntmps27
    go_wp2
    go_ret2
    exact ⟨rfl, rfl⟩
theorem Waits_any {w : World} {p : Value} {x : LX} (h : TabO w p x) (k : Int) (hk : IsI k) :
    Calls Try.prog 29 #[p, .int .i64 k] w fun e w' => e = .returned (.tuple #[.int .i64 ((waitOf x.ws k).getD 0), .bool (waitOf x.ws k).isSome]) ∧ w = w' := by
  rcases h with ⟨rfl, rfl⟩ | ⟨B, bh, bw, n, rfl, h⟩
  · go_enter Try.func29, Try.ntmps29
    go_wp2
    go_ret2
    exact ⟨rfl, rfl⟩
  · have hc := h.c1
    have hlk := h.mw.look hk
    clear h hk
    generalize (waitOf x.ws k).getD 0 = v at *
    generalize (waitOf x.ws k).isSome = s at *
    go_enter Try.func29, Try.ntmps29
    go_wp2
    go_ret2
    exact ⟨rfl, rfl⟩
theorem Rising_tab {w : World} {p : Value} {x : LX} (h : TabO w p x) :
    Calls Try.prog 31 #[p] w fun e w' => e = .returned (.bool x.up) ∧ w = w' := by
  rcases h with ⟨rfl, rfl⟩ | ⟨B, bh, bw, n, rfl, h⟩
  · go_enter Try.func31, Try.ntmps31
    go_wp2
    go_ret
    exact ⟨rfl, rfl⟩
  · have hc := h.c2
    clear h
    generalize x.up = u at *
    go_enter Try.func31, Try.ntmps31
    go_wp2
    go_ret
    exact ⟨rfl, rfl⟩

end Go.Proofs.Ytdgmcaehadigaaa
