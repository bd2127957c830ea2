/- A heap in memory: exchange and comparison, by contract. -/
import Derived.Test.YtajmnhnepoomjaaHeapSwap
import Derived.BigQuiet
import Derived.BigGuardPart
namespace Go.Proofs.Ytajmnhnepoomjaa
open Go.RowKit Go.Shelf Go.Sort

theorem cell_drew (V : World) (p : Addr) : V.drew.cell? p = V.cell? p := rfl
theorem frozen_drew (V : World) (p : Addr) : V.drew.frozen? p = V.frozen? p := rfl
theorem far6 {W : World} {g b : Nat} (hne : g ≠ b) (o1 o2 o3 o4 o5 o6 : Nat) (v1 v2 v3 v4 v5 v6 : Value) (o' : Nat) :
    ((((((W.setCell ⟨g, o1, none⟩ v1).setCell ⟨g, o2, none⟩ v2).setCell ⟨g, o3, none⟩ v3).setCell ⟨g, o4, none⟩ v4).setCell ⟨g, o5, none⟩ v5).setCell ⟨g, o6, none⟩ v6).drew.cell? ⟨b, o', none⟩ = W.cell? ⟨b, o', none⟩ := by
  have ne : ∀ o, (⟨g, o, none⟩ : Addr) ≠ ⟨b, o', none⟩ := fun o e => by injection e with e; exact hne e
  rw [cell_drew, World.cell?_setCell_other _ _ _ _ (ne _), World.cell?_setCell_other _ _ _ _ (ne _), World.cell?_setCell_other _ _ _ _ (ne _), World.cell?_setCell_other _ _ _ _ (ne _), World.cell?_setCell_other _ _ _ _ (ne _), World.cell?_setCell_other _ _ _ _ (ne _)]
theorem frozen6 {W : World} (a1 a2 a3 a4 a5 a6 p : Addr) (v1 v2 v3 v4 v5 v6 : Value) :
    ((((((W.setCell a1 v1).setCell a2 v2).setCell a3 v3).setCell a4 v4).setCell a5 v5).setCell a6 v6).drew.frozen? p = W.frozen? p := by
  rw [frozen_drew]
  simp only [World.frozen?_setCell]

theorem swap_any {b : Nat} {fv : Value} {A : Option Addr} {c : Nat} {M : List SpotT} {W : World} (h : HeapAt W b fv A c M) (i k : Nat) (hi : i < M.length) (hk : k < M.length) (hik : i ≠ k) (hn : M.length ≤ 100000) :
    Calls Try.prog 176 #[.pointer (some ⟨b, 0, none⟩), .int .i64 i, .int .i64 k] W fun e W' => e = .returned (.tuple #[]) ∧ HeapAt W' b fv A c (swap2 M i k) ∧ Kp (BlkH b A) W W' := by
  obtain ⟨g, rfl, hg, hgw⟩ := ownPos h.row (by omega)
  have hl := swap2_len M i k
  have hne : g ≠ b := by omega
  refine (swap_raw b g M.length c i k M W h.h0 (ArrS.of_own h.row) hi hk hik hn).mono ?_
  rintro e W' ⟨rfl, hW⟩
  have hrow := own_set3 (own_set3 h.row i (spAt M k) hi) k (spAt M i) (by simpa using hk)
  have c0 := (far6 hne (i * 3) (i * 3 + 1) (i * 3 + 2) (k * 3) (k * 3 + 1) (k * 3 + 2) (.int .u64 (spAt M k).1.1) (.int .u64 (spAt M k).1.2) (.int .i64 (spAt M k).2) (.int .u64 (spAt M i).1.1) (.int .u64 (spAt M i).1.2) (.int .i64 (spAt M i).2) 0).trans h.h0
  have c1 := (far6 hne (i * 3) (i * 3 + 1) (i * 3 + 2) (k * 3) (k * 3 + 1) (k * 3 + 2) (.int .u64 (spAt M k).1.1) (.int .u64 (spAt M k).1.2) (.int .i64 (spAt M k).2) (.int .u64 (spAt M i).1.1) (.int .u64 (spAt M i).1.2) (.int .i64 (spAt M i).2) 1).trans h.h1
  have f0 := (frozen6 ⟨g, i * 3, none⟩ ⟨g, i * 3 + 1, none⟩ ⟨g, i * 3 + 2, none⟩ ⟨g, k * 3, none⟩ ⟨g, k * 3 + 1, none⟩ ⟨g, k * 3 + 2, none⟩ ⟨b, 0, none⟩ (.int .u64 (spAt M k).1.1) (.int .u64 (spAt M k).1.2) (.int .i64 (spAt M k).2) (.int .u64 (spAt M i).1.1) (.int .u64 (spAt M i).1.2) (.int .i64 (spAt M i).2)).trans h.f0
  have hB : ∀ o, BlkH b (some ⟨g, 0, none⟩) g o := fun _ => .inr rfl
  have kp := ((((((Kp.refl (S := BlkH b (some ⟨g, 0, none⟩)) (w := W)).set (o := i * 3) (hB _) (.int .u64 (spAt M k).1.1)).set (o := i * 3 + 1) (hB _) (.int .u64 (spAt M k).1.2)).set (o := i * 3 + 2) (hB _) (.int .i64 (spAt M k).2)).set (o := k * 3) (hB _) (.int .u64 (spAt M i).1.1)).set (o := k * 3 + 1) (hB _) (.int .u64 (spAt M i).1.2)).set (o := k * 3 + 2) (hB _) (.int .i64 (spAt M i).2)
  have hrow2 := hrow.drew
  have kp2 := kp.drew
  rw [← hW] at c0 c1 f0 hrow2 kp2
  rw [← hl] at c0
  refine ⟨rfl, ⟨c0, c1, f0, ?_⟩, kp2⟩
  rw [hl]
  exact hrow2

/-- What a heap's comparison is called with. -/
theorem First_any (x y : SpotT) (W : World) :
    Calls Try.prog 116 #[.agg #[.int .u64 x.1.1, .int .u64 x.1.2, .int .i64 x.2], .agg #[.int .u64 y.1.1, .int .u64 y.1.2, .int .i64 y.2]] W fun e w' => e = .returned (.bool (gtS x y)) ∧ Grown W w' := by
  obtain ⟨⟨a, b⟩, s⟩ := x
  obtain ⟨⟨c, d⟩, t⟩ := y
  go_enter Try.func116, Try.ntmps116
  go_wp2_with (go_at_call 55; refine (Spot_any ((_, _), _) ((_, _), _) _).mono ?_; rintro e w' ⟨rfl, hg⟩)
  go_ret
  exact ⟨rfl, (Grown.two _ _ _).trans hg⟩

end Go.Proofs.Ytajmnhnepoomjaa
