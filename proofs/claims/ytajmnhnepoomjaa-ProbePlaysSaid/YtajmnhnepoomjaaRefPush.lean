/- The document's own queue behind one spot more, by contract. -/
import Derived.Test.YtajmnhnepoomjaaAppAny
import Derived.Deep.RegionLaw
import Derived.Test.YtajmnhnepoomjaaRankLives
import Derived.Deep.RegionHeld3
import Derived.Deep.AppendLies
namespace Go.Proofs.Ytajmnhnepoomjaa
open Go.RowKit Go.Shelf Go.Sort

section
variable {P : Program} {w : World}
/-- append, whatever the source, at a step of a region that draws. -/
theorem step_append_cells {ops : Array Oper} {o : Oper} {a : Act} {K : Act → World → Prop} {Q : Exit → Act → World → Prop} {E : Prop} (hg : o.guard = none) (s x : Operand) (t : TypeId)
    (hop : o.op = Op.call { callee := Callee.builtin Builtin.append, args := #[s, x], argTypes := #[t, t] })
    (base : Nat) (e : TypeId) (i : TypeInfo) (z : Value) (size bytes : Nat) (ht : P.underlying t = some (.slice e)) (hi : P.info? e = some i) (hz : i.zero = some z)
    (hsize : i.size = size) (hby : i.bytes = bytes) (hzs : z.cells.size = size) (hsz : 0 < size)
    (v : Value) (n : Nat) (xs : List Value) (hs : a.eval s = v) (hown : w.ownsRow base e size v n xs)
    (A : Option Addr) (m c : Nat) (news : List Value) (hx : a.eval x = .slice A m c) (hl : news.length = m * size) (hA : A = none → m = 0) (hnews : ∀ ad, A = some ad → ∀ j u, news[j]? = some u → w.cell? (ad.add j) = some u) (h1 : ∀ u ∈ news, u.oneCell' = true)
    (h63 : n + m ≤ maxLen) (hbytes : (n + m) * bytes ≤ 140737488355328) (hbase : base ≤ w.heap.size)
    (hK : ∀ v' w', w'.ownsRow base e size v' (n + m) (xs ++ news) → w.grownBy w' v.ownBlock → K (a.put o.dst v') w') :
    if Region.wanted o (yielded ops a.tmps) = true then Oper.wp P o a w K Q else E := by
  have hw : Region.wanted o (yielded ops a.tmps) = true := by simp [Region.wanted, hg]
  rw [if_pos hw]
  cases A with
  | some ad =>
    obtain ⟨v', w', hrun, h2, h3, _, _⟩ := run_append_own_at (P := P) w base t o.type e i z size bytes ht hi hz hsize hby hzs hsz v n xs hown ad m c news hl (hnews ad rfl) h1 h63 hbytes hbase
    unfold Oper.wp
    simp [execOp, hop, resolve, invoke, builtin, hs, hx, hrun, Result.andThen]
    exact hK v' w' h2 h3
  | none =>
    obtain rfl := hA rfl
    obtain rfl : news = [] := List.eq_nil_of_length_eq_zero (by omega)
    have hrun := append_nil_cap (P := P) (w := w) base t o.type e i size ht hi v n c xs hown
    unfold Oper.wp
    simp [execOp, hop, resolve, invoke, builtin, hs, hx, hrun, Result.andThen]
    exact hK v w (by simpa using hown) (World.grownBy.refl w _)
end

theorem own_newS_at {B : Nat} (W : World) (hB : B ≤ W.heap.size) : (W.alloc (.cells #[] 62)).ownsRow B 62 3 (.slice (some ⟨W.heap.size, 0, none⟩) 0 0) 0 [] := World.ownsRow_made W #[] 0 hB (Nat.zero_le _) rfl
/-- What Push keeps: the spot in its block, behind the world X in which it was laid. -/
theorem push_all {X W : World} {b : Nat} {xa xb xc : Int} (hlt : b < X.heap.size) (h0 : X.cell? ⟨b, 0, none⟩ = some (.int .u64 xa)) (h1 : X.cell? ⟨b, 1, none⟩ = some (.int .u64 xb)) (h2 : X.cell? ⟨b, 2, none⟩ = some (.int .i64 xc)) (hb : Below X.heap.size X W) :
    Below X.heap.size X W ∧ W.cell? ⟨b, 0, none⟩ = some (.int .u64 xa) ∧ W.cell? ⟨b, 1, none⟩ = some (.int .u64 xb) ∧ W.cell? ⟨b, 2, none⟩ = some (.int .i64 xc) :=
  ⟨hb, (hb.cell (p := ⟨b, 0, none⟩) hlt).trans h0, (hb.cell (p := ⟨b, 1, none⟩) hlt).trans h1, (hb.cell (p := ⟨b, 2, none⟩) hlt).trans h2⟩
theorem one_news {W : World} {k : Nat} {xa xb xc : Int} (h : W.heap[k]? = some (.cells #[.int .u64 xa, .int .u64 xb, .int .i64 xc] 62)) : ∀ ad, (some (⟨k, 0, none⟩ : Addr)) = some ad → ∀ (j : Nat) u, ([.int .u64 xa, .int .u64 xb, .int .i64 xc] : List Value)[j]? = some u → W.cell? (ad.add j) = some u := by
  intro ad e
  injection e with e
  subst e
  exact World.news_of_block (cs := #[.int .u64 xa, .int .u64 xb, .int .i64 xc]) (t := 62) (fr := (0, 0)) h

set_option maxRecDepth 100000 in
set_option maxHeartbeats 4000000 in
theorem refPush_new (A : Option Addr) (zs : List SpotT) (ca : Nat) (s : SpotT) (w : World) (hA : RdS w w.heap.size A zs) (hl : zs.length ≤ 10000) :
    Calls Try.prog 79 #[.slice A zs.length ca, sptV s] w (SpotsNew (sortS (zs ++ [s])) w) := by
  have mixed : Try.prog.follows .mixedOrders = true := by kernel_rfl
  obtain ⟨i0, hi0, hz0, hz1, hz2⟩ := info_parts info_spot
  obtain ⟨L, hL⟩ : ∃ L, zs ++ [s] = L := ⟨_, rfl⟩
  have HSN : Hid (cellsS L = cellsS zs ++ [.int .u64 s.1.1, .int .u64 s.1.2, .int .i64 s.2]) := by rw [← hL]; exact cellsS_snoc zs s
  have HLN : Hid (L.length = zs.length + 1) := by rw [← hL]; exact List.length_append
  rw [hL]
  clear hL
  obtain ⟨⟨xa, xb⟩, xc⟩ := s
  unfold sptV
  simp only at HSN ⊢
  have hX := below_new3 w (.cells #[.int .u64 xa, .int .u64 xb, .int .i64 xc] 62)
  have b0 : (w.alloc (.cells #[.int .u64 xa, .int .u64 xb, .int .i64 xc] 62)).cell? ⟨w.heap.size, 0, none⟩ = some (.int .u64 xa) := by go_cell
  have b1 : (w.alloc (.cells #[.int .u64 xa, .int .u64 xb, .int .i64 xc] 62)).cell? ⟨w.heap.size, 1, none⟩ = some (.int .u64 xb) := by go_cell
  have b2 : (w.alloc (.cells #[.int .u64 xa, .int .u64 xb, .int .i64 xc] 62)).cell? ⟨w.heap.size, 2, none⟩ = some (.int .i64 xc) := by go_cell
  have hsz : (w.alloc (.cells #[.int .u64 xa, .int .u64 xb, .int .i64 xc] 62)).heap.size = w.heap.size + 1 := by simp
  have HA := Lib.hid (hA.below hX)
  have HX := Lib.hid hX
  have h0 := Below.refl (w.alloc (.cells #[.int .u64 xa, .int .u64 xb, .int .i64 xc] 62)).heap.size (w.alloc (.cells #[.int .u64 xa, .int .u64 xb, .int .i64 xc] 62))
  clear hA hX
  go_enter Try.func79, Try.ntmps79
  go_upto_region 1 with (fail)
  generalize w.alloc (.cells #[.int .u64 xa, .int .u64 xb, .int .i64 xc] 62) = X at *
  generalize hB : w.heap.size = B at *
  have HLT := Lib.hid (show B < X.heap.size by omega)
  have HALL := Lib.hid (fun W hb => push_all (W := W) HLT.out b0 b1 b2 hb)
  have HAX : Hid (∀ W, Below X.heap.size X W → RdS W B A zs) := Lib.hid fun W hb => HA.out.below (hb.mono (Nat.le_of_lt HLT.out))
  have l2 : (0 + zs.length) * 24 ≤ 140737488355328 := by omega
  have l3 : (0 + zs.length + 1) * 24 ≤ 140737488355328 := by omega
  have l4 : 0 + zs.length ≤ maxLen := by unfold maxLen; omega
  have l5 : 0 + zs.length + 1 ≤ maxLen := by unfold maxLen; omega
  have NL := Lib.hid hl
  have HS1 := Lib.hid hsz
  clear hl hsz
  have OWN1 := Lib.hid (own_newS_at X (Nat.le_refl _)).drew
  have OWN2 := Lib.hid ((own_newS_at X (Nat.le_refl _)).alloc (.cells #[.int .u64 xa, .int .u64 xb, .int .i64 xc] 62)).drew
  have OWN3 : Hid (((X.alloc (.cells #[.int .u64 xa, .int .u64 xb, .int .i64 xc] 62)).alloc (.cells #[] 62)).drew.ownsRow X.heap.size 62 3 (.slice (some ⟨X.heap.size + 1, 0, none⟩) 0 0) 0 []) := by
    have h := (own_newS_at (B := X.heap.size) (X.alloc (.cells #[.int .u64 xa, .int .u64 xb, .int .i64 xc] 62)) (by simp)).drew
    rw [show (X.alloc (.cells #[.int .u64 xa, .int .u64 xb, .int .i64 xc] 62)).heap.size = X.heap.size + 1 by simp] at h
    exact h
  have BL1 := Lib.hid (below_drew (below_allocS h0 (.cells #[] 62)))
  have BL2 := Lib.hid (below_drew (below_allocS (below_allocS h0 (.cells #[] 62)) (.cells #[.int .u64 xa, .int .u64 xb, .int .i64 xc] 62)))
  have BL3 := Lib.hid (below_drew (below_allocS (below_allocS h0 (.cells #[.int .u64 xa, .int .u64 xb, .int .i64 xc] 62)) (.cells #[] 62)))
  have HN2 : Hid (∀ w1, ((X.alloc (.cells #[] 62)).alloc (.cells #[.int .u64 xa, .int .u64 xb, .int .i64 xc] 62)).drew.grownBy w1 (Value.slice (some ⟨X.heap.size, 0, none⟩) 0 0).ownBlock → w1.heap[X.heap.size + 1]? = some (.cells #[.int .u64 xa, .int .u64 xb, .int .i64 xc] 62)) := Lib.hid fun w1 hg => by
    rw [hg.block (X.heap.size + 1) (by simp) (by simp [Value.ownBlock])]
    have := heap_alloc_new (X.alloc (.cells #[] 62)) (.cells #[.int .u64 xa, .int .u64 xb, .int .i64 xc] 62)
    rw [show (X.alloc (.cells #[] 62)).heap.size = X.heap.size + 1 by simp] at this
    exact this
  have HN3 : Hid (∀ w1, ((X.alloc (.cells #[.int .u64 xa, .int .u64 xb, .int .i64 xc] 62)).alloc (.cells #[] 62)).drew.grownBy w1 (Value.slice (some ⟨X.heap.size + 1, 0, none⟩) 0 0).ownBlock → w1.heap[X.heap.size]? = some (.cells #[.int .u64 xa, .int .u64 xb, .int .i64 xc] 62)) := Lib.hid fun w1 hg => by
    rw [hg.block X.heap.size (by simp; omega) (by simp [Value.ownBlock])]
    exact ((below_allocS (Below.refl _ (X.alloc (.cells #[.int .u64 xa, .int .u64 xb, .int .i64 xc] 62))) (.cells #[] 62)).block X.heap.size (by simp)).trans (heap_alloc_new X (.cells #[.int .u64 xa, .int .u64 xb, .int .i64 xc] 62))
  go_region_held3 (fun W => Below X.heap.size X W ∧ W.cell? ⟨B, 0, none⟩ = some (.int .u64 xa) ∧ W.cell? ⟨B, 1, none⟩ = some (.int .u64 xb) ∧ W.cell? ⟨B, 2, none⟩ = some (.int .i64 xc))
    (with_reducible first | assumption | exact HALL.out _ (by assumption) | exact HALL.out _ (below_drew (by assumption)) | exact HALL.out _ (below_allocS (And.left (by assumption)) _) | exact HALL.out _ (below_drew (below_allocS (And.left (by assumption)) _)) | exact HALL.out _ (below_drew (And.left (by assumption))))
    (first
      | (go_at_call 110; (with_reducible refine Calls.mono (refSort_new A3 L c3 (by have := NL.out; have := HLN.out; omega) hcA3 _ (by first | exact rdS_own hown3 | exact rdS_own hown3.drew)) ?_); rintro e W ⟨A4, c4, rfl, hr4, hc4, hm4, hb4, hn4⟩; have hb5 := hb2.trans (hb4.mono hb2.size))
      | (refine step_append_cells (by rfl) _ _ 44 (by rfl) X.heap.size 62 i0 _ 3 24 Try.underlying44 hi0 hz0 hz1 hz2 rfl (by decide) v1 (0 + zs.length) ([] ++ cellsS zs) (by rfl) hown1 (some ⟨X.heap.size + 1, 0, none⟩) 1 1 [.int .u64 xa, .int .u64 xb, .int .i64 xc] (by rfl) (by rfl) (fun e => by cases e) (one_news hN) (by simp [Value.oneCell']) l5 l3 hb1.size ?_; intro v2 w2 hown2 hg2; have hb2 := ownBase hown1 hb1 (Nat.le_refl _) hb1.size hg2; have hown3 : w2.ownsRow X.heap.size 62 3 v2 L.length (cellsS L) := (by rw [HLN.out, HSN.out]; simpa using hown2); clear hown2 hg2; obtain ⟨A3, c3, rfl, hc3, hm3⟩ := ownSlice hown3; have hcA3 : A3 = none → c3 = 0 := own_none hown3)
      | (refine step_append_cells (by rfl) _ _ 44 (by rfl) X.heap.size 62 i0 _ 3 24 Try.underlying44 hi0 hz0 hz1 hz2 rfl (by decide) v1 (0 + zs.length) ([] ++ cellsS zs) (by rfl) hown1 (some ⟨X.heap.size, 0, none⟩) 1 1 [.int .u64 xa, .int .u64 xb, .int .i64 xc] (by rfl) (by rfl) (fun e => by cases e) (one_news hN) (by simp [Value.oneCell']) l5 l3 hb1.size ?_; intro v2 w2 hown2 hg2; have hb2 := ownBase hown1 hb1 (Nat.le_refl _) hb1.size hg2; have hown3 : w2.ownsRow X.heap.size 62 3 v2 L.length (cellsS L) := (by rw [HLN.out, HSN.out]; simpa using hown2); clear hown2 hg2; obtain ⟨A3, c3, rfl, hc3, hm3⟩ := ownSlice hown3; have hcA3 : A3 = none → c3 = 0 := own_none hown3)
      | (refine step_append_cells (by rfl) _ _ 44 (by rfl) X.heap.size 62 i0 _ 3 24 Try.underlying44 hi0 hz0 hz1 hz2 rfl (by decide) v1 (0 + zs.length) ([] ++ cellsS zs) (by rfl) (hown1.alloc _) (some ⟨w1.heap.size, 0, none⟩) 1 1 [.int .u64 xa, .int .u64 xb, .int .i64 xc] (by rfl) (by rfl) (fun e => by cases e) (one_news (heap_alloc_new w1 _)) (by simp [Value.oneCell']) l5 l3 (by have := hb1.size; simp; omega) ?_; intro v2 w2 hown2 hg2; have hb2 := ownBase (hown1.alloc _) (below_allocS hb1 _) (Nat.le_refl _) (by have := hb1.size; simp; omega) hg2; have hown3 : w2.ownsRow X.heap.size 62 3 v2 L.length (cellsS L) := (by rw [HLN.out, HSN.out]; simpa using hown2); clear hown2 hg2; obtain ⟨A3, c3, rfl, hc3, hm3⟩ := ownSlice hown3; have hcA3 : A3 = none → c3 = 0 := own_none hown3)
      | (refine step_append_cells (by rfl) _ _ 44 (by rfl) X.heap.size 62 i0 _ 3 24 Try.underlying44 hi0 hz0 hz1 hz2 rfl (by decide) (.slice (some ⟨X.heap.size, 0, none⟩) 0 0) 0 [] (by rfl) OWN1.out A zs.length ca (cellsS zs) (by rfl) (cellsS_len zs) HA.out.none_len (HAX.out _ (And.left (by assumption))).news_all cellsS_one l4 l2 (by simp; try omega) ?_; intro v1 w1 hown1 hg1; have hb1 := ownBase OWN1.out BL1.out (Nat.le_refl _) (by simp; try omega) hg1)
      | (refine step_append_cells (by rfl) _ _ 44 (by rfl) X.heap.size 62 i0 _ 3 24 Try.underlying44 hi0 hz0 hz1 hz2 rfl (by decide) (.slice (some ⟨X.heap.size, 0, none⟩) 0 0) 0 [] (by rfl) OWN2.out A zs.length ca (cellsS zs) (by rfl) (cellsS_len zs) HA.out.none_len (HAX.out _ (And.left (by assumption))).news_all cellsS_one l4 l2 (by simp; try omega) ?_; intro v1 w1 hown1 hg1; have hb1 := ownBase OWN2.out BL2.out (Nat.le_refl _) (by simp; try omega) hg1; have hN := HN2.out w1 hg1)
      | (refine step_append_cells (by rfl) _ _ 44 (by rfl) X.heap.size 62 i0 _ 3 24 Try.underlying44 hi0 hz0 hz1 hz2 rfl (by decide) (.slice (some ⟨X.heap.size + 1, 0, none⟩) 0 0) 0 [] (by rfl) OWN3.out A zs.length ca (cellsS zs) (by rfl) (cellsS_len zs) HA.out.none_len (HAX.out _ (And.left (by assumption))).news_all cellsS_one l4 l2 (by simp; try omega) ?_; intro v1 w1 hown1 hg1; have hb1 := ownBase OWN3.out BL3.out (Nat.le_refl _) (by simp; try omega) hg1; have hN := HN3.out w1 hg1))
  all_goals
    go_wp2
    go_ret
    have hs2 := hb2.size
    rw [HS1.out] at hb5 hs2
    exact ⟨A4, c4, rfl, hr4, hc4, hm4, by rw [hB]; exact HX.out.trans (hb5.mono (Nat.le_succ _)), fun h k o e => by have := hn4 h k o e; omega⟩

end Go.Proofs.Ytajmnhnepoomjaa
