/- A watch, and clocks beside it, through a law's walk. -/
import Derived.Test.YtdgmcaehadigaaaRacDo
namespace Go.Proofs.Ytdgmcaehadigaaa
open Go.RowKit

theorem Short_new (A : Option Addr) (zs : List Int) (c : Nat) (w : World) (hA : Rd (Value.int .i64) w w.heap.size A zs) (hl : zs.length ≤ 9223372036854775807) :
    Calls Try.prog 84 #[.slice A zs.length c] w (IntsNew (shortL (numL zs)) w) := by
  go_enter Try.func84, Try.ntmps84
  go_wp2_with fail
  refine (numbersOf_any A zs c _ hA hl).mono ?_
  rintro e w1 ⟨rfl, hb1⟩
  go_wp2_with fail
  refine (short_new _ (numL_num zs) _).mono ?_
  rintro e w2 ⟨A2, c2, rfl, hr, hb2⟩
  have HO := Lib.hid (show IntsNew (shortL (numL zs)) w (.returned (.slice A2 (shortL (numL zs)).length c2)) w2 from IntsNew.later hb1 ⟨A2, c2, rfl, hr, hb2⟩)
  clear hr hb2 hb1 hA
  generalize shortL (numL zs) = L at *
  go_wp2
  go_ret
  exact HO.out

/-- A watch that lies where B says, in memory laid since w0, and clocks beside it. -/
def W1 (w0 : World) (n B : Nat) (a : AX) (ks : List (Value × List Int)) (w : World) : Prop :=
  ∃ Z ρ X, Rac w Z n ρ X ∧ X.B = B ∧ X.a = a ∧ Below w0.heap.size w0 w ∧ (∀ b, Owned ρ b → w0.heap.size ≤ b) ∧ ∀ p ∈ ks, Clk w Z p.1 p.2
section
variable {w0 w w' : World} {n m B : Nat} {a a' : AX} {ks : List (Value × List Int)}
theorem W1.later (h : W1 w0 n B a ks w) (hb : Below w.heap.size w w') : W1 w0 n B a ks w' := by
  obtain ⟨Z, ρ, X, hR, h1, h2, h3, h4, h5⟩ := h
  exact ⟨Z, ρ, X, hR.later hb, h1, h2, Below.next h3 hb, h4, fun p hp => (h5 p hp).chg (M := fun _ => False) (Chg.of_below hb) (fun _ e => e.elim) (fun _ e => .inl e)⟩
theorem W1.below (h : W1 w0 n B a ks w) : Below w0.heap.size w0 w := let ⟨_, _, _, _, _, _, h3, _⟩ := h; h3
theorem W1.more (h : W1 w0 n B a ks w) (hm : n ≤ m) : W1 w0 m B a ks w := by
  obtain ⟨Z, ρ, X, hR, r⟩ := h
  exact ⟨Z, ρ, X, hR.more hm, r⟩
theorem W1.less (h : W1 w0 n B a ks w) {ls : List (Value × List Int)} (hs : ∀ p ∈ ls, p ∈ ks) : W1 w0 n B a ls w := by
  obtain ⟨Z, ρ, X, hR, h1, h2, h3, h4, h5⟩ := h
  exact ⟨Z, ρ, X, hR, h1, h2, h3, h4, fun p hp => h5 p (hs p hp)⟩
/-- Behind something that is done to the watch. -/
theorem W1.of_out {Z : Nat → Prop} {ρ : Nat → Int × Int} {X : RX} (hR : Rac w Z n ρ X) (h3 : Below w0.heap.size w0 w) (h4 : ∀ b, Owned ρ b → w0.heap.size ≤ b) (h5 : ∀ p ∈ ks, Clk w Z p.1 p.2) (h : RacOut w Z m ρ X a' w') : W1 w0 m X.B a' ks w' := by
  obtain ⟨ρ', X', h', ha, hB, hc, ho, _⟩ := h
  refine ⟨_, ρ', X', h', hB, ha, h3.trans (hc.below h4 h3.size), fun b hb => (ho b hb).elim (h4 b) (fun h => Nat.le_trans h3.size h), fun p hp => (h5 p hp).chg hc (fun b hb => .inl (hR.own b hb).2) (fun b e => ?_)⟩
  rcases e with e | e
  · exact .inl e
  · exact (ho b e).imp (fun h => (hR.own b h).2) id
theorem New_w1 (w : World) : Calls Try.prog 9 #[] w fun e w' => ∃ B, e = .returned (.pointer (some ⟨B, 0, none⟩)) ∧ W1 w 0 B newA [] w' :=
  (New_any w (fun _ => False) (fun _ e => e.elim)).mono fun e w' h => by
    obtain ⟨ρ, X, he, hR, ha, hb, ho⟩ := h
    exact ⟨X.B, he, _, ρ, X, hR, rfl, ha, hb, ho, fun p hp => by cases hp⟩
theorem Load_w1 (h : W1 w0 n B a ks w) (k : Nat) (hk : k < 65) (p : Int) (hp : IsI p) :
    Calls Try.prog 69 #[.pointer (some ⟨B, 0, none⟩), .int .i64 (k : Int), .int .i64 p] w fun e w' => e = .returned (.tuple #[]) ∧ W1 w0 (n + 1) B (loadA a k p) ks w' := by
  obtain ⟨Z, ρ, X, hR, rfl, rfl, h3, h4, h5⟩ := h
  exact (Load_any hR k hk p hp).mono fun e w' ⟨he, ho⟩ => ⟨he, W1.of_out hR h3 h4 h5 ho⟩
theorem Store_w1 (h : W1 w0 n B a ks w) (hn : n < 100000) (k : Nat) (hk : k < 65) (p : Int) (hp : IsI p) :
    Calls Try.prog 68 #[.pointer (some ⟨B, 0, none⟩), .int .i64 (k : Int), .int .i64 p] w fun e w' => e = .returned (.tuple #[]) ∧ W1 w0 (n + 1) B (storeA a k p) ks w' := by
  obtain ⟨Z, ρ, X, hR, rfl, rfl, h3, h4, h5⟩ := h
  exact (Store_any hR hn k hk p hp).mono fun e w' ⟨he, ho⟩ => ⟨he, W1.of_out hR h3 h4 h5 ho⟩
theorem Read_w1 (h : W1 w0 n B a ks w) (hn : n < 99000) (k : Nat) (hk : k < 65) (d : Int) (hd : IsI d) :
    Calls Try.prog 67 #[.pointer (some ⟨B, 0, none⟩), .int .i64 (k : Int), .int .i64 d] w fun e w' => e = .returned (.bool (!hidW a k d)) ∧ W1 w0 (n + 3) B (readA a k d) ks w' := by
  obtain ⟨Z, ρ, X, hR, rfl, rfl, h3, h4, h5⟩ := h
  exact (Read_any hR hn k hk d hd).mono fun e w' ⟨he, ho⟩ => ⟨he, W1.of_out hR h3 h4 h5 ho⟩
theorem Write_w1 (h : W1 w0 n B a ks w) (hn : n < 99000) (k : Nat) (hk : k < 65) (d : Int) (hd : IsI d) :
    Calls Try.prog 66 #[.pointer (some ⟨B, 0, none⟩), .int .i64 (k : Int), .int .i64 d] w fun e w' => e = .returned (.bool (clashW a k d).isNone) ∧ W1 w0 (n + 3) B (writeA a k d) ks w' := by
  obtain ⟨Z, ρ, X, hR, rfl, rfl, h3, h4, h5⟩ := h
  exact (Write_any hR hn k hk d hd).mono fun e w' ⟨he, ho⟩ => ⟨he, W1.of_out hR h3 h4 h5 ho⟩
theorem Clock_w1 (h : W1 w0 n B a ks w) (k : Nat) (hk : k < 65) :
    Calls Try.prog 17 #[.pointer (some ⟨B, 0, none⟩), .int .i64 (k : Int)] w fun e w' => ∃ A l c, e = .returned (.slice A l c) ∧ W1 w0 n B a ((.slice A l c, a.N k) :: ks) w' := by
  obtain ⟨Z, ρ, X, hR, rfl, rfl, h3, h4, h5⟩ := h
  obtain ⟨A, zs, c, hV, hN, hl, hr⟩ := hR.clock k hk
  have hc := (hR.wk k hk).1
  rw [hV] at hc
  have HQ : Hid (Calls Try.prog 84 #[.slice A zs.length c] w fun e w' => ∃ A l c, e = .returned (.slice A l c) ∧ W1 w0 n X.B X.a ((.slice A l c, X.a.N k) :: ks) w') := Lib.hid <|
    (Short_new A zs c w hr (by omega)).mono fun e w' hq => by
      obtain ⟨A2, c2, he, h6, hb⟩ := hq
      have hck : Clk w' Z (.slice A2 (shortL (numL zs)).length c2) (numL (shortL (numL zs))) := Clk.of_new hR.zlt ⟨A2, c2, rfl, h6, hb⟩ (shortL_le _)
      rw [numL_short (numL_num zs)] at hck
      refine ⟨A2, _, c2, he, Z, ρ, X, hR.later hb, rfl, rfl, Below.next h3 hb, h4, fun p hp => ?_⟩
      rcases List.mem_cons.1 hp with rfl | hp
      · rw [← hN]
        exact hck
      · exact (h5 p hp).chg (M := fun _ => False) (Chg.of_below hb) (fun _ e => e.elim) (fun _ e => .inl e)
  have HW := Lib.hid (isW_nat hk)
  have hk0 : (0 : Int) ≤ (k : Int) := by omega
  have hk1 : (k : Int) < 65 := by omega
  clear hr hN hV hR h3 h4 h5
  go_enter Try.func17, Try.ntmps17
  go_wp2_with fail
  refine (has_any _ _ _).mono ?_
  rw [HW.out]
  rintro e w' ⟨rfl, rfl⟩
  go_wp2_with fail
  refine HQ.out.mono ?_
  rintro e w2 ⟨A2, l2, c2, rfl, ho⟩
  have HO := Lib.hid ho
  clear ho HQ
  go_wp2
  go_ret
  exact ⟨A2, l2, c2, rfl, HO.out⟩
theorem At_w1 (h : W1 w0 n B a ks w) {A : Option Addr} {l1 c1 : Nat} {M : List Int} (h1 : (Value.slice A l1 c1, M) ∈ ks) (x : Int) :
    Calls Try.prog 130 #[.slice A l1 c1, .int .i64 x] w fun e w' => e = .returned (.int .i64 (atM M x)) ∧ w = w' := by
  obtain ⟨Z, ρ, X, hR, _, _, h3, h4, h5⟩ := h
  obtain ⟨A1, zs, d1, e1, hN1, hz1, r1⟩ := h5 _ h1
  simp only [Value.slice.injEq] at e1
  obtain ⟨rfl, rfl, rfl⟩ := e1
  have q1 : Rd (Value.int .i64) w w.heap.size A zs := fun k z hk => let ⟨b, off, x1, x2, _, x4⟩ := r1 k z hk; ⟨b, off, x1, x2, x4⟩
  simp only at hN1
  rw [← hN1]
  exact At_any A zs c1 x w q1 (by omega)
end

end Go.Proofs.Ytdgmcaehadigaaa
