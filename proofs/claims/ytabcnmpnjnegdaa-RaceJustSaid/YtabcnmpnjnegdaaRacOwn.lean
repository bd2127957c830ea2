/- A watch beside rows that a law itself writes. -/
import Derived.Test.YtabcnmpnjnegdaaRacDeed
namespace Go.Proofs.Ytabcnmpnjnegdaa
open Go.RowKit

/-- A watch that lies where B says, in memory laid since w0; the blocks of J are the law's own. -/
def W3 (w0 : World) (n B : Nat) (a : AX) (J : Nat → Prop) (w : World) : Prop :=
  ∃ Z ρ X, Rac w Z n ρ X ∧ X.B = B ∧ X.a = a ∧ Below w0.heap.size w0 w ∧ (∀ b, Owned ρ b → w0.heap.size ≤ b) ∧ ∀ b, J b → Z b ∧ ¬ Owned ρ b ∧ w0.heap.size ≤ b
section
variable {w0 w w' : World} {n m B : Nat} {a a' : AX} {J J' : Nat → Prop}
theorem W3.below (h : W3 w0 n B a J w) : Below w0.heap.size w0 w := let ⟨_, _, _, _, _, _, h3, _⟩ := h; h3
theorem W3.lt (h : W3 w0 n B a J w) {b : Nat} (hb : J b) : b < w.heap.size := let ⟨_, _, _, hR, _, _, _, _, h5⟩ := h; hR.zlt b (h5 b hb).1
theorem W3.later (h : W3 w0 n B a J w) (hb : Below w.heap.size w w') : W3 w0 n B a J w' := by
  obtain ⟨Z, ρ, X, hR, h1, h2, h3, h4, h5⟩ := h
  exact ⟨Z, ρ, X, hR.later hb, h1, h2, Below.next h3 hb, h4, h5⟩
theorem W3.more (h : W3 w0 n B a J w) (hm : n ≤ m) : W3 w0 m B a J w := by
  obtain ⟨Z, ρ, X, hR, r⟩ := h
  exact ⟨Z, ρ, X, hR.more hm, r⟩
theorem W3.less (h : W3 w0 n B a J w) (hs : ∀ b, J' b → J b) : W3 w0 n B a J' w := by
  obtain ⟨Z, ρ, X, hR, h1, h2, h3, h4, h5⟩ := h
  exact ⟨Z, ρ, X, hR, h1, h2, h3, h4, fun b hb => h5 b (hs b hb)⟩
/-- New blocks become the law's own. -/
theorem W3.add (h : W3 w0 n B a J w) (hb : Below w.heap.size w w') (hs : ∀ b, J' b → J b ∨ (w.heap.size ≤ b ∧ b < w'.heap.size)) : W3 w0 n B a J' w' := by
  obtain ⟨Z, ρ, X, hR, h1, h2, h3, h4, h5⟩ := h
  have hsz := h3.size
  refine ⟨fun b => Z b ∨ J' b, ρ, X, hR.chg (M := fun _ => False) (Chg.of_below hb) (fun _ e => e.elim) (fun _ e => e.elim) (fun b e => .inl (hR.own b e).2) (fun b e => ?_) (fun b e => ?_), h1, h2, Below.next h3 hb, h4, fun b hb' => ⟨.inr hb', fun e => ?_, ?_⟩⟩
  · rcases e with e | e
    · exact .inl e
    · exact (hs b e).imp (fun e => (h5 b e).1) (fun e => e.1)
  · rcases e with e | e
    · exact Nat.lt_of_lt_of_le (hR.zlt b e) hb.size
    · rcases hs b e with e | e
      · exact Nat.lt_of_lt_of_le (hR.zlt b (h5 b e).1) hb.size
      · exact e.2
  · rcases hs b hb' with e2 | e2
    · exact (h5 b e2).2.1 e
    · have := (hR.own b e).1
      omega
  · rcases hs b hb' with e2 | e2
    · exact (h5 b e2).2.2
    · omega
/-- The law writes into a block of its own. -/
theorem W3.set (h : W3 w0 n B a J w) {b o : Nat} (hb : J b) (v : Value) : W3 w0 n B a J (w.setCell ⟨b, o, none⟩ v) := by
  obtain ⟨Z, ρ, X, hR, h1, h2, h3, h4, h5⟩ := h
  obtain ⟨q1, q2, q3⟩ := h5 b hb
  refine ⟨Z, ρ, X, hR.chg (M := fun c => c = b) (Chg.setCell (M := fun c => c = b) Chg.refl rfl v) (fun c e => by rw [e]; exact q2) (fun c e => .inl (by rw [e]; exact q1)) (fun c e => (hR.own c e).2) (fun c e => .inl e) (fun c e => by rw [World.size_setCell]; exact hR.zlt c e), h1, h2, h3.setCell (p := ⟨b, o, none⟩) q3 v, h4, h5⟩
theorem W3.of_out {Z : Nat → Prop} {ρ : Nat → Int × Int} {X : RX} (hR : Rac w Z n ρ X) (h3 : Below w0.heap.size w0 w) (h4 : ∀ b, Owned ρ b → w0.heap.size ≤ b) (h5 : ∀ b, J b → Z b ∧ ¬ Owned ρ b ∧ w0.heap.size ≤ b) (h : RacOut w Z m ρ X a' w') : W3 w0 m X.B a' J w' ∧ ∀ b, J b → w'.heap[b]? = w.heap[b]? := by
  obtain ⟨ρ', X', h', ha, hB, hc, ho, _⟩ := h
  refine ⟨⟨_, ρ', X', h', hB, ha, h3.trans (hc.below h4 h3.size), fun b hb => (ho b hb).elim (h4 b) (fun h => Nat.le_trans h3.size h), fun b hb => ?_⟩, fun b hb => ?_⟩
  · obtain ⟨q1, q2, q3⟩ := h5 b hb
    refine ⟨.inl q1, fun e => ?_, q3⟩
    rcases ho b e with e | e
    · exact q2 e
    · have := hR.zlt b q1
      omega
  · obtain ⟨q1, q2, _⟩ := h5 b hb
    exact hc.block b (hR.zlt b q1) q2
/-- Blocks of the law's own stay as they are. -/
def Keep (J : Nat → Prop) (w w' : World) : Prop := ∀ b, J b → w'.heap[b]? = w.heap[b]?
theorem Load_w3 (h : W3 w0 n B a J w) (k : Nat) (hk : k < 65) (p : Int) (hp : IsI p) :
    Calls Try.prog 35 #[.pointer (some ⟨B, 0, none⟩), .int .i64 (k : Int), .int .i64 p] w fun e w' => e = .returned (.tuple #[]) ∧ W3 w0 (n + 1) B (loadA a k p) J w' ∧ Keep J w w' := by
  obtain ⟨Z, ρ, X, hR, rfl, rfl, h3, h4, h5⟩ := h
  exact (Load_any hR k hk p hp).mono fun e w' ⟨he, ho⟩ => ⟨he, W3.of_out hR h3 h4 h5 ho⟩
theorem Store_w3 (h : W3 w0 n B a J w) (hn : n < 100000) (k : Nat) (hk : k < 65) (p : Int) (hp : IsI p) :
    Calls Try.prog 38 #[.pointer (some ⟨B, 0, none⟩), .int .i64 (k : Int), .int .i64 p] w fun e w' => e = .returned (.tuple #[]) ∧ W3 w0 (n + 1) B (storeA a k p) J w' ∧ Keep J w w' := by
  obtain ⟨Z, ρ, X, hR, rfl, rfl, h3, h4, h5⟩ := h
  exact (Store_any hR hn k hk p hp).mono fun e w' ⟨he, ho⟩ => ⟨he, W3.of_out hR h3 h4 h5 ho⟩
theorem Swap_w3 (h : W3 w0 n B a J w) (hn : n < 99000) (k : Nat) (hk : k < 65) (p : Int) (hp : IsI p) :
    Calls Try.prog 51 #[.pointer (some ⟨B, 0, none⟩), .int .i64 (k : Int), .int .i64 p] w fun e w' => e = .returned (.tuple #[]) ∧ W3 w0 (n + 1 + 1) B (swapA a k p) J w' ∧ Keep J w w' := by
  obtain ⟨Z, ρ, X, hR, rfl, rfl, h3, h4, h5⟩ := h
  exact (Swap_any hR (by omega) k hk p hp).mono fun e w' ⟨he, ho⟩ => ⟨he, W3.of_out hR h3 h4 h5 ho⟩
theorem Read_w3 (h : W3 w0 n B a J w) (hn : n < 99000) (k : Nat) (hk : k < 65) (d : Int) (hd : IsI d) :
    Calls Try.prog 36 #[.pointer (some ⟨B, 0, none⟩), .int .i64 (k : Int), .int .i64 d] w fun e w' => e = .returned (.bool (!hidW a k d)) ∧ W3 w0 (n + 3) B (readA a k d) J w' ∧ Keep J w w' := by
  obtain ⟨Z, ρ, X, hR, rfl, rfl, h3, h4, h5⟩ := h
  exact (Read_any hR hn k hk d hd).mono fun e w' ⟨he, ho⟩ => ⟨he, W3.of_out hR h3 h4 h5 ho⟩
theorem Write_w3 (h : W3 w0 n B a J w) (hn : n < 99000) (k : Nat) (hk : k < 65) (d : Int) (hd : IsI d) :
    Calls Try.prog 37 #[.pointer (some ⟨B, 0, none⟩), .int .i64 (k : Int), .int .i64 d] w fun e w' => e = .returned (.bool (clashW a k d).isNone) ∧ W3 w0 (n + 3) B (writeA a k d) J w' ∧ Keep J w w' := by
  obtain ⟨Z, ρ, X, hR, rfl, rfl, h3, h4, h5⟩ := h
  exact (Write_any hR hn k hk d hd).mono fun e w' ⟨he, ho⟩ => ⟨he, W3.of_out hR h3 h4 h5 ho⟩
theorem Clash_w3 (h : W3 w0 n B a J w) (hn : n ≤ 100000) {m : Nat} (hm : a.cl.length = m) :
    Calls Try.prog 33 #[.pointer (some ⟨B, 0, none⟩)] w fun e w' => ∃ A c, e = .returned (.slice A m c) ∧ Below w.heap.size w w' := by
  subst hm
  obtain ⟨Z, ρ, X, hR, rfl, rfl, _⟩ := h
  exact (Clashes_any hR hn).mono fun e w' ⟨A, c, he, _, hb⟩ => ⟨A, c, he, hb⟩
theorem Keep.of_below {J : Nat → Prop} (h : ∀ b, J b → b < w.heap.size) (hb : Below w.heap.size w w') : Keep J w w' := fun b e => hb.block b (h b e)
theorem Keep.trans {w'' : World} (h : Keep J w w') (k : Keep J w' w'') : Keep J w w'' := fun b e => (k b e).trans (h b e)

set_option maxRecDepth 100000 in
set_option maxHeartbeats 4000000 in
theorem do_w3 (h : W3 w0 n B a J w) (hn : n < 90000) (d : D3) (hp : IsI d.2) :
    Calls Try.prog 29 #[.pointer (some ⟨B, 0, none⟩), D3V d] w fun e w' => e = .returned (.bool (doA a d).2) ∧ W3 w0 (n + 3) B (doA a d).1 J w' ∧ Keep J w w' := by
  obtain ⟨⟨kd, wk⟩, p⟩ := d
  unfold D3V
  simp only
  simp only at hp
  have hk0 : Keep J w (w.alloc (.cells #[.int .i64 kd, .int .i64 wk, .int .i64 p] 41)) := Keep.of_below (fun b e => h.lt e) (below_new _ _)
  have HK0 := Lib.hid hk0
  have h1 := h.later (w' := w.alloc (.cells #[.int .i64 kd, .int .i64 wk, .int .i64 p] 41)) (below_new _ _)
  clear h hk0
  cases hW : isW wk
  · have HD : Hid (doA a ((kd, wk), p) = (a, true)) := by rw [Hid, doA, hW]; rfl
    have HL := Lib.hid (Load_not B wk p hW (w.alloc (.cells #[.int .i64 kd, .int .i64 wk, .int .i64 p] 41)))
    have HS := Lib.hid (Store_not B wk p hW (w.alloc (.cells #[.int .i64 kd, .int .i64 wk, .int .i64 p] 41)))
    have HX := Lib.hid (Swap_not B wk p hW (w.alloc (.cells #[.int .i64 kd, .int .i64 wk, .int .i64 p] 41)))
    have HR := Lib.hid (Read_not B wk p hW (w.alloc (.cells #[.int .i64 kd, .int .i64 wk, .int .i64 p] 41)))
    have HWr := Lib.hid (Write_not B wk p hW (w.alloc (.cells #[.int .i64 kd, .int .i64 wk, .int .i64 p] 41)))
    have HF := Lib.hid (And.intro (h1.more (show n ≤ n + 3 by omega)) HK0.out)
    clear h1 hW
    by_cases k0 : kd = 0
    · subst k0
      go_enter Try.func29, Try.ntmps29
      go_wp2_with fail
      refine HL.out.mono ?_
      rintro e w' ⟨rfl, rfl⟩
      go_wp2
      go_ret
      rw [HD.out]
      exact ⟨rfl, HF.out⟩
    by_cases k1 : kd = 1
    · subst k1
      go_enter Try.func29, Try.ntmps29
      go_wp2_with fail
      refine HS.out.mono ?_
      rintro e w' ⟨rfl, rfl⟩
      go_wp2
      go_ret
      rw [HD.out]
      exact ⟨rfl, HF.out⟩
    by_cases k2 : kd = 2
    · subst k2
      go_enter Try.func29, Try.ntmps29
      go_wp2_with fail
      refine HX.out.mono ?_
      rintro e w' ⟨rfl, rfl⟩
      go_wp2
      go_ret
      rw [HD.out]
      exact ⟨rfl, HF.out⟩
    by_cases k3 : kd = 3
    · subst k3
      go_enter Try.func29, Try.ntmps29
      go_wp2_with fail
      refine HR.out.mono ?_
      rintro e w' ⟨rfl, rfl⟩
      go_wp2
      go_ret
      rw [HD.out]
      exact ⟨rfl, HF.out⟩
    by_cases k4 : kd = 4
    · subst k4
      go_enter Try.func29, Try.ntmps29
      go_wp2_with fail
      refine HWr.out.mono ?_
      rintro e w' ⟨rfl, rfl⟩
      go_wp2
      go_ret
      rw [HD.out]
      exact ⟨rfl, HF.out⟩
    go_enter Try.func29, Try.ntmps29
    go_wp2
    go_ret
    rw [HD.out]
    exact ⟨rfl, HF.out⟩
  · have hwb := of_decide_eq_true (show decide (0 ≤ wk ∧ wk ≤ 64) = true from hW)
    obtain ⟨k, rfl⟩ : ∃ k : Nat, wk = (k : Int) := ⟨wk.toNat, by omega⟩
    have hk : k < 65 := by omega
    have HD : Hid (doA a ((kd, (k : Int)), p) = (if kd = 0 then (loadA a k p, true) else if kd = 1 then (storeA a k p, true) else if kd = 2 then (swapA a k p, true)
      else if kd = 3 then (readA a k p, !hidW a k p) else if kd = 4 then (writeA a k p, (clashW a k p).isNone) else (a, true))) := by
      rw [Hid, doA, hW, if_pos rfl]
      simp only [Int.toNat_natCast]
    have H1 := Lib.hid h1
    clear h1 hW hwb
    by_cases k0 : kd = 0
    · subst k0
      have HL := Lib.hid (Load_w3 H1.out k hk p hp)
      go_enter Try.func29, Try.ntmps29
      go_wp2_with fail
      refine HL.out.mono ?_
      rintro e w' ⟨rfl, h2⟩
      have HF := Lib.hid (And.intro (h2.1.more (show n + 1 ≤ n + 3 by omega)) (HK0.out.trans h2.2))
      clear h2
      go_wp2
      go_ret
      rw [HD.out]
      exact ⟨rfl, HF.out⟩
    by_cases k1 : kd = 1
    · subst k1
      have HL := Lib.hid (Store_w3 H1.out (by omega) k hk p hp)
      go_enter Try.func29, Try.ntmps29
      go_wp2_with fail
      refine HL.out.mono ?_
      rintro e w' ⟨rfl, h2⟩
      have HF := Lib.hid (And.intro (h2.1.more (show n + 1 ≤ n + 3 by omega)) (HK0.out.trans h2.2))
      clear h2
      go_wp2
      go_ret
      rw [HD.out]
      exact ⟨rfl, HF.out⟩
    by_cases k2 : kd = 2
    · subst k2
      have HL := Lib.hid (Swap_w3 H1.out (by omega) k hk p hp)
      go_enter Try.func29, Try.ntmps29
      go_wp2_with fail
      refine HL.out.mono ?_
      rintro e w' ⟨rfl, h2⟩
      have HF := Lib.hid (And.intro (h2.1.more (show n + 1 + 1 ≤ n + 3 by omega)) (HK0.out.trans h2.2))
      clear h2
      go_wp2
      go_ret
      rw [HD.out]
      exact ⟨rfl, HF.out⟩
    by_cases k3 : kd = 3
    · subst k3
      have HL := Lib.hid (Read_w3 H1.out (by omega) k hk p hp)
      generalize hidW a k p = t at *
      go_enter Try.func29, Try.ntmps29
      go_wp2_with fail
      refine HL.out.mono ?_
      rintro e w' ⟨rfl, h2⟩
      have HF := Lib.hid (And.intro h2.1 (HK0.out.trans h2.2))
      clear h2
      go_wp2
      go_ret
      rw [HD.out]
      exact ⟨rfl, HF.out⟩
    by_cases k4 : kd = 4
    · subst k4
      have HL := Lib.hid (Write_w3 H1.out (by omega) k hk p hp)
      generalize (clashW a k p).isNone = t at *
      go_enter Try.func29, Try.ntmps29
      go_wp2_with fail
      refine HL.out.mono ?_
      rintro e w' ⟨rfl, h2⟩
      have HF := Lib.hid (And.intro h2.1 (HK0.out.trans h2.2))
      clear h2
      go_wp2
      go_ret
      rw [HD.out]
      exact ⟨rfl, HF.out⟩
    have HF := Lib.hid (And.intro (H1.out.more (show n ≤ n + 3 by omega)) HK0.out)
    have hd2 : Hid (doA a ((kd, (k : Int)), p) = (a, true)) := by rw [Hid, HD.out, if_neg k0, if_neg k1, if_neg k2, if_neg k3, if_neg k4]
    clear HD
    go_enter Try.func29, Try.ntmps29
    go_wp2
    go_ret
    rw [hd2.out]
    exact ⟨rfl, HF.out⟩
end

end Go.Proofs.Ytabcnmpnjnegdaa
