/- Two watches side by side, through a law's walk; Clashes, by contract. -/
import Derived.Test.YtdgmcaehadigaaaRacW1
namespace Go.Proofs.Ytdgmcaehadigaaa
open Go.RowKit

/-- Clashes in memory, cell by cell. -/
def RdC (w : World) (A : Option Addr) (L : List ClT) : Prop := Rd (fun v => v) w w.heap.size A (cellsCl L)
theorem Rd.of_rows {w : World} {base : Nat} {e : TypeId} {size n cap : Nat} {A : Option Addr} {xs : List Value} (h : w.ownsRow base e size (.slice A n cap) n xs) (hx : n = 0 → xs = []) : Rd (fun v => v) w w.heap.size A xs := by
  intro j u hj
  have hjl : j < xs.length := (List.getElem?_eq_some_iff.1 hj).1
  rcases h.2 with ⟨_, h0⟩ | ⟨g, c, cur, hv, _, hh, _⟩
  · rw [hx h0] at hjl
    exact absurd hjl (Nat.not_lt_zero j)
  · injection hv with hv _ _
    subst hv
    refine ⟨g, 0, rfl, (Array.getElem?_eq_some_iff.1 hh).1, ?_⟩
    have hl := h.1
    rw [Nat.zero_add, h.cellAt j (by omega)]
    exact hj
def ClOut (L : List ClT) (w : World) (e : Ending) (w' : World) : Prop := ∃ A c, e = .returned (.slice A L.length c) ∧ RdC w' A L ∧ Below w.heap.size w w'
theorem cellsCl_len (L : List ClT) : (cellsCl L).length = L.length * 6 := by
  induction L with
  | nil => rfl
  | cons x L ih =>
    have : cellsCl (x :: L) = (cellsAcc x.1 ++ cellsAcc x.2) ++ cellsCl L := by simp [cellsCl]
    rw [this, List.length_append, ih]
    simp [cellsAcc]
    omega
theorem cellsCl_one (L : List ClT) : ∀ u ∈ cellsCl L, u.oneCell' = true := by
  intro u hu
  obtain ⟨x, _, hx⟩ := List.mem_flatMap.1 hu
  rcases List.mem_append.1 hx with h | h
  all_goals
    simp only [cellsAcc, List.mem_cons, List.not_mem_nil, or_false] at h
    rcases h with rfl | rfl | rfl <;> rfl

set_option maxRecDepth 100000 in
set_option maxHeartbeats 2000000 in
theorem CloneC_any (A : Option Addr) (L : List ClT) (c : Nat) (w : World) (hA : RdC w A L) (hl : L.length ≤ 100000) (hcA : A = none → c = 0 ∧ L = []) :
    Calls Try.prog 85 #[.slice A L.length c] w (ClOut L w) := by
  obtain ⟨i0, hi0, hz0, hz1, hz2⟩ := info_parts info_clash
  have q : ∀ (w : World) (a : Option Addr) (n c n' c' : Nat), (binOp .eql 28 (.slice a n c) (.slice none n' c')).run Try.prog w = .ok (.bool a.isNone) w := fun w a n c n' c' => Lib.run_eql_slice_nil w _ _ a n c n' c' Try.underlying28
  cases A with
  | none =>
    obtain ⟨rfl, rfl⟩ := hcA rfl
    go_enter Try.func85, Try.ntmps85
    go_wp2
    go_ret
    exact ⟨none, 0, rfl, Rd.nil, Below.refl _ _⟩
  | some ad =>
    have hb0 : ∀ o, Below w.heap.size w (w.alloc o) := fun o => (Below.refl _ w).alloc (Nat.le_refl _) o
    clear hcA
    have hcl := cellsCl_len L
    have hnews : ∀ j u, (cellsCl L)[j]? = some u → (w.alloc (.cells #[] 120)).cell? (ad.add j) = some u := fun j u hj => by
      obtain ⟨b, off, he, hb, hc⟩ := hA j u hj
      injection he with he
      subst he
      rw [show Addr.add ⟨b, off, none⟩ j = ⟨b, off + j, none⟩ from by simp [Addr.add]]
      exact ((hb0 _).cell (p := ⟨b, off + j, none⟩) hb).trans hc
    go_enter Try.func85, Try.ntmps85
    go_wp2_with (at_builtin; refine wpList_append_own _ rfl _ _ 28 rfl w.heap.size 120 i0 _ 6 48 Try.underlying28 hi0 hz0 hz1 hz2 rfl (by decide) _ _ _ rfl (World.ownsRow_made w #[] 0 (Nat.le_refl _) (Nat.zero_le _) rfl) ad L.length c (cellsCl L) rfl ?c1 ?c2 (cellsCl_one L) ?c3 ?c4 ?c5 ?_)
    case c1 => rw [hcl]
    case c2 => exact hnews
    case c3 => unfold maxLen; omega
    case c4 => omega
    case c5 => simp
    intro v' w1 hown hgrow _
    have hown2 : w1.ownsRow w.heap.size 120 6 v' L.length (cellsCl L) := by simpa using hown
    have hB : Below w.heap.size w w1 := (hb0 _).grown hgrow (by simp) (by intro k hk; simp [Value.ownBlock] at hk; omega)
    clear hown hgrow q hb0 hnews
    obtain ⟨A2, c2, rfl, _, _⟩ := ownSlice hown2
    have HO := Lib.hid (show ClOut L w (.returned (.slice A2 L.length c2)) w1 from ⟨A2, c2, rfl, Rd.of_rows hown2 (fun h => List.length_eq_zero_iff.1 (by rw [hcl, h])), hB⟩)
    clear hown2 hB
    go_wp2
    go_ret
    exact HO.out

theorem Clashes_any {w : World} {Z : Nat → Prop} {n : Nat} {ρ : Nat → Int × Int} {X : RX} (h : Rac w Z n ρ X) (hn : n ≤ 100000) :
    Calls Try.prog 20 #[.pointer (some ⟨X.B, 0, none⟩)] w (ClOut X.a.cl w) := by
  obtain ⟨A, c, hcv, hc1, hc2⟩ := ownSlice h.cr
  have c67 := h.c67.1
  rw [hcv] at c67
  have hown := h.cr
  rw [hcv] at hown
  have hcl := cellsCl_len X.a.cl
  have hR : RdC w A X.a.cl := Rd.of_rows hown (fun h => List.length_eq_zero_iff.1 (by rw [hcl, h]))
  have hcn := h.cn
  have hnone : A = none → c = 0 ∧ X.a.cl = [] := fun e => by
    subst e
    rcases hown.2 with ⟨hv, h0⟩ | ⟨g, cap, cur, hv, _⟩
    · injection hv with _ _ hv
      exact ⟨hv, List.length_eq_zero_iff.1 h0⟩
    · injection hv with hv; cases hv
  have HQ := Lib.hid (CloneC_any A X.a.cl c w hR (by omega) hnone)
  clear hown hR hnone h hcv
  go_enter Try.func20, Try.ntmps20
  go_wp2_with fail
  refine HQ.out.mono ?_
  rintro e w1 ⟨A2, c2, rfl, hr, hb⟩
  have HO := Lib.hid (show ClOut X.a.cl w (.returned (.slice A2 X.a.cl.length c2)) w1 from ⟨A2, c2, rfl, hr, hb⟩)
  clear hr hb HQ
  go_wp2
  go_ret
  exact HO.out
theorem Clashes_nil (w : World) : Calls Try.prog 20 #[.pointer none] w fun e w' => e = .returned (.slice none 0 0) ∧ w = w' := by
  go_enter Try.func20, Try.ntmps20
  go_wp2
  go_ret
  exact ⟨rfl, rfl⟩

/-- Two watches, in memory laid since w0. -/
def W2 (w0 : World) (n B1 : Nat) (a1 : AX) (B2 : Nat) (a2 : AX) (w : World) : Prop :=
  ∃ Z ρ1 X1 ρ2 X2, (Rac w Z n ρ1 X1 ∧ X1.B = B1 ∧ X1.a = a1) ∧ (Rac w Z n ρ2 X2 ∧ X2.B = B2 ∧ X2.a = a2) ∧ (∀ b, Owned ρ1 b → ¬ Owned ρ2 b) ∧ Below w0.heap.size w0 w ∧ (∀ b, Owned ρ1 b → w0.heap.size ≤ b) ∧ (∀ b, Owned ρ2 b → w0.heap.size ≤ b)
section
variable {w0 w w' : World} {n m B1 B2 : Nat} {a1 a2 a' : AX}
theorem W2.swap (h : W2 w0 n B1 a1 B2 a2 w) : W2 w0 n B2 a2 B1 a1 w := by
  obtain ⟨Z, ρ1, X1, ρ2, X2, h1, h2, hd, hb, o1, o2⟩ := h
  exact ⟨Z, ρ2, X2, ρ1, X1, h2, h1, fun b e2 e1 => hd b e1 e2, hb, o2, o1⟩
theorem W2.below (h : W2 w0 n B1 a1 B2 a2 w) : Below w0.heap.size w0 w := let ⟨_, _, _, _, _, _, _, _, hb, _⟩ := h; hb
theorem W2.later (h : W2 w0 n B1 a1 B2 a2 w) (hb : Below w.heap.size w w') : W2 w0 n B1 a1 B2 a2 w' := by
  obtain ⟨Z, ρ1, X1, ρ2, X2, ⟨h1, r1⟩, ⟨h2, r2⟩, hd, hb0, o1, o2⟩ := h
  exact ⟨Z, ρ1, X1, ρ2, X2, ⟨h1.later hb, r1⟩, ⟨h2.later hb, r2⟩, hd, Below.next hb0 hb, o1, o2⟩
theorem W2.of_out {Z : Nat → Prop} {ρ1 ρ2 : Nat → Int × Int} {X1 X2 : RX} (h1 : Rac w Z n ρ1 X1) (h2 : Rac w Z n ρ2 X2) (hd : ∀ b, Owned ρ1 b → ¬ Owned ρ2 b) (hb : Below w0.heap.size w0 w) (o1 : ∀ b, Owned ρ1 b → w0.heap.size ≤ b) (o2 : ∀ b, Owned ρ2 b → w0.heap.size ≤ b)
    (hm : n ≤ m) (h : RacOut w Z m ρ1 X1 a' w') : W2 w0 m X1.B a' X2.B X2.a w' := by
  obtain ⟨ρ', X', h', ha, hB, hc, ho, _⟩ := h
  have hlt : ∀ b, Owned ρ2 b → b < w.heap.size := fun b e => (h2.own b e).1
  have hw0 := hb.size
  have h2' : Rac w' (fun b => Z b ∨ Owned ρ' b) n ρ2 X2 := by
    refine h2.chg hc hd (fun b e => .inl (h1.own b e).2) (fun b e => .inl (h2.own b e).2) (fun b e => ?_) h'.zlt
    rcases e with e | e
    · exact .inl e
    · exact (ho b e).imp (fun e => (h1.own b e).2) id
  refine ⟨_, ρ', X', ρ2, X2, ⟨h', hB, ha⟩, ⟨h2'.more hm, rfl, rfl⟩, fun b e e2 => ?_, hb.trans (hc.below o1 hw0), fun b e => ?_, o2⟩
  · rcases ho b e with e | e
    · exact hd b e e2
    · have := hlt b e2
      omega
  · rcases ho b e with e | e
    · exact o1 b e
    · omega
theorem W1.two (h : W1 w0 n B1 a1 [] w) : Calls Try.prog 9 #[] w fun e w' => ∃ B2, e = .returned (.pointer (some ⟨B2, 0, none⟩)) ∧ W2 w0 n B1 a1 B2 newA w' := by
  obtain ⟨Z, ρ1, X1, hR, rfl, rfl, h3, h4, _⟩ := h
  refine (New_any w Z hR.zlt).mono fun e w' hn => ?_
  obtain ⟨ρ2, X2, he, hR2, ha, hb, ho⟩ := hn
  have hw0 := h3.size
  refine ⟨X2.B, he, _, ρ1, X1, ρ2, X2, ⟨?_, rfl, rfl⟩, ⟨hR2.more (Nat.zero_le n), rfl, ha⟩, fun b e1 e2 => ?_, Below.next h3 hb, h4, fun b e => ?_⟩
  · refine hR.chg (M := fun _ => False) (Chg.of_below hb) (fun _ e => e.elim) (fun _ e => e.elim) (fun b e => .inl (hR.own b e).2) (fun b e => ?_) hR2.zlt
    rcases e with e | e
    · exact .inl e
    · exact .inr (ho b e)
  · have := (hR.own b e1).1
    have := ho b e2
    omega
  · have := ho b e
    omega
theorem Load_w2 (h : W2 w0 n B1 a1 B2 a2 w) (k : Nat) (hk : k < 65) (p : Int) (hp : IsI p) :
    Calls Try.prog 69 #[.pointer (some ⟨B1, 0, none⟩), .int .i64 (k : Int), .int .i64 p] w fun e w' => e = .returned (.tuple #[]) ∧ W2 w0 (n + 1) B1 (loadA a1 k p) B2 a2 w' := by
  obtain ⟨Z, ρ1, X1, ρ2, X2, ⟨h1, rfl, rfl⟩, ⟨h2, rfl, rfl⟩, hd, hb, o1, o2⟩ := h
  exact (Load_any h1 k hk p hp).mono fun e w' ⟨he, ho⟩ => ⟨he, W2.of_out h1 h2 hd hb o1 o2 (by omega) ho⟩
theorem Store_w2 (h : W2 w0 n B1 a1 B2 a2 w) (hn : n < 100000) (k : Nat) (hk : k < 65) (p : Int) (hp : IsI p) :
    Calls Try.prog 68 #[.pointer (some ⟨B1, 0, none⟩), .int .i64 (k : Int), .int .i64 p] w fun e w' => e = .returned (.tuple #[]) ∧ W2 w0 (n + 1) B1 (storeA a1 k p) B2 a2 w' := by
  obtain ⟨Z, ρ1, X1, ρ2, X2, ⟨h1, rfl, rfl⟩, ⟨h2, rfl, rfl⟩, hd, hb, o1, o2⟩ := h
  exact (Store_any h1 hn k hk p hp).mono fun e w' ⟨he, ho⟩ => ⟨he, W2.of_out h1 h2 hd hb o1 o2 (by omega) ho⟩
theorem Read_w2 (h : W2 w0 n B1 a1 B2 a2 w) (hn : n < 99000) (k : Nat) (hk : k < 65) (d : Int) (hdd : IsI d) :
    Calls Try.prog 67 #[.pointer (some ⟨B1, 0, none⟩), .int .i64 (k : Int), .int .i64 d] w fun e w' => e = .returned (.bool (!hidW a1 k d)) ∧ W2 w0 (n + 3) B1 (readA a1 k d) B2 a2 w' := by
  obtain ⟨Z, ρ1, X1, ρ2, X2, ⟨h1, rfl, rfl⟩, ⟨h2, rfl, rfl⟩, hd, hb, o1, o2⟩ := h
  exact (Read_any h1 hn k hk d hdd).mono fun e w' ⟨he, ho⟩ => ⟨he, W2.of_out h1 h2 hd hb o1 o2 (by omega) ho⟩
theorem Write_w2 (h : W2 w0 n B1 a1 B2 a2 w) (hn : n < 99000) (k : Nat) (hk : k < 65) (d : Int) (hdd : IsI d) :
    Calls Try.prog 66 #[.pointer (some ⟨B1, 0, none⟩), .int .i64 (k : Int), .int .i64 d] w fun e w' => e = .returned (.bool (clashW a1 k d).isNone) ∧ W2 w0 (n + 3) B1 (writeA a1 k d) B2 a2 w' := by
  obtain ⟨Z, ρ1, X1, ρ2, X2, ⟨h1, rfl, rfl⟩, ⟨h2, rfl, rfl⟩, hd, hb, o1, o2⟩ := h
  exact (Write_any h1 hn k hk d hdd).mono fun e w' ⟨he, ho⟩ => ⟨he, W2.of_out h1 h2 hd hb o1 o2 (by omega) ho⟩
theorem Clashes_w2 (h : W2 w0 n B1 a1 B2 a2 w) (hn : n ≤ 100000) :
    Calls Try.prog 20 #[.pointer (some ⟨B1, 0, none⟩)] w fun e w' => ∃ A c, e = .returned (.slice A a1.cl.length c) ∧ RdC w' A a1.cl ∧ Below w.heap.size w w' := by
  obtain ⟨Z, ρ1, X1, ρ2, X2, ⟨h1, rfl, rfl⟩, _⟩ := h
  exact Clashes_any h1 hn
end

end Go.Proofs.Ytdgmcaehadigaaa
