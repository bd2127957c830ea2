/- append onto a row of the call's own, whatever the source: nil, empty or not. -/
import Derived.Test.YtajmnhnepoomjaaRefMerge
import Derived.Laws.AppendOwn
import Derived.Laws.OwnMore
namespace Go.Proofs.Ytajmnhnepoomjaa
open Go.RowKit Go.Shelf Go.Sort

section
variable {P : Program} {w : World}
/-- A nil source's capacity says nothing: it goes as the nil slice itself. -/
theorem append_nil_cap (base : Nat) (t ty e : TypeId) (i : TypeInfo) (size : Nat) (ht : P.underlying t = some (.slice e)) (hi : P.info? e = some i) (v : Value) (n c : Nat) (xs : List Value) (hown : w.ownsRow base e size v n xs) :
    (Builtin.append_ #[t, t] ty #[v, .slice none 0 c]).run P w = .ok v w := by
  have same : (Builtin.append_ #[t, t] ty #[v, .slice none 0 c]).run P w = (Builtin.append_ #[t, t] ty #[v, .slice none 0 0]).run P w := by
    obtain ⟨B, k, rfl, hk, _⟩ := ownSlice hown
    cases B <;> simp [Builtin.append_, run_underlying ht, sizeOf, typeInfo, hi, Builtin.lenOf, Builtin.firstCells, hk]
  exact same.trans (run_append_owned_none w base t ty e i size ht hi v n xs hown)
theorem wpList_append_cells {ops : Array Oper} {rest : List Oper} {o : Oper} {a : Act} {Q : Exit → Act → World → Prop} (hgd : o.guard = none) (s x : Operand) (t : TypeId)
    (ho : o.op = .call { callee := .builtin .append, args := #[s, x], argTypes := #[t, t] })
    (base : Nat) (e : TypeId) (i : TypeInfo) (z : Value) (size bytes : Nat) (ht : P.underlying t = some (.slice e)) (hi : P.info? e = some i) (hz : i.zero = some z)
    (hsize : i.size = size) (hby : i.bytes = bytes) (hzs : z.cells.size = size) (hsz : 0 < size)
    (v : Value) (n : Nat) (xs : List Value) (hs : a.eval s = v) (hown : w.ownsRow base e size v n xs)
    (A : Option Addr) (m c : Nat) (news : List Value) (hx : a.eval x = .slice A m c) (hl : news.length = m * size) (hA : A = none → m = 0) (hnews : ∀ ad, A = some ad → ∀ j u, news[j]? = some u → w.cell? (ad.add j) = some u) (h1 : ∀ u ∈ news, u.oneCell' = true)
    (h63 : n + m ≤ maxLen) (hbytes : (n + m) * bytes ≤ 140737488355328) (hbase : base ≤ w.heap.size)
    (h : ∀ v' w', w'.ownsRow base e size v' (n + m) (xs ++ news) → w.grownBy w' v.ownBlock → wpList P ops Q rest (a.put o.dst v') w') : wpList P ops Q (o :: rest) a w := by
  cases A with
  | some ad => exact wpList_append_own w hgd s x t ho base e i z size bytes ht hi hz hsize hby hzs hsz v n xs hs hown ad m c news hx hl (hnews ad rfl) h1 h63 hbytes hbase fun v' w' p q _ => h v' w' p q
  | none =>
    obtain rfl := hA rfl
    obtain rfl : news = [] := List.eq_nil_of_length_eq_zero (by omega)
    have hrun := append_nil_cap (P := P) (w := w) base t o.type e i size ht hi v n c xs hown
    have hk := h v w (by simpa using hown) (World.grownBy.refl w _)
    refine wpList_plain hgd fun K hK => ?_
    unfold Oper.wp
    simp [execOp, ho, resolve, invoke, builtin, hs, hx, hrun, Result.andThen]
    exact hK _ _ hk
end

theorem rdS_own {w : World} {base c : Nat} {A : Option Addr} {M : List SpotT} (h : w.ownsRow base 62 3 (.slice A M.length c) M.length (cellsS M)) : RdS w w.heap.size A M := by
  by_cases h0 : M.length = 0
  · obtain rfl := List.eq_nil_of_length_eq_zero h0
    exact RdS.nil
  · obtain ⟨g, rfl, _, _⟩ := ownPos h (by omega)
    exact (ArrS.of_own h).rd (by omega)
theorem RdS.none_len {w : World} {B : Nat} {A : Option Addr} {zs : List SpotT} (h : RdS w B A zs) : A = none → zs.length = 0 := fun e => by
  subst e
  rw [h.none_nil]
  rfl
theorem RdS.news_all {w : World} {B : Nat} {A : Option Addr} {zs : List SpotT} (h : RdS w B A zs) : ∀ ad, A = some ad → ∀ j u, (cellsS zs)[j]? = some u → w.cell? (ad.add j) = some u := fun ad e => by
  subst e
  exact h.news
theorem own_newS (w : World) : (w.alloc (.cells #[] 62)).ownsRow w.heap.size 62 3 (.slice (some ⟨w.heap.size, 0, none⟩) 0 0) 0 [] := World.ownsRow_made w #[] 0 (Nat.le_refl _) (Nat.zero_le _) rfl
end Go.Proofs.Ytajmnhnepoomjaa
