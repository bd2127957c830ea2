/- The document's arena (ganglionref21), by contract: New. -/
import Derived.Test.YtoaikdnooafjmaaRefAr3
namespace Go.Proofs.Ytoaikdnooafjmaa
open Go.RowKit

theorem RaNew_not (v : Int) (hv : v < 1 ∨ 4096 < v) (w : World) : Calls Try.prog 61 #[.int .i64 v] w fun e w' => e = .returned (.tuple #[.agg #[.slice none 0 0, .slice none 0 0, .slice none 0 0], .int .i64 6]) ∧ Below w.heap.size w w' := by
  have hb := below_new w (.cells #[.slice none 0 0, .slice none 0 0, .slice none 0 0] 93)
  have HB := Lib.hid hb
  clear hb
  rcases hv with h | h
  · go_enter Try.func61, Try.ntmps61
    go_wp2
    exact bodyPost_ret (v := .tuple #[.agg #[.slice none 0 0, .slice none 0 0, .slice none 0 0], .int .i64 6]) (by simp [results, Try.results61, go_sem]) rfl ⟨rfl, HB.out⟩
  · have h1 : ¬ v < 1 := by omega
    go_enter Try.func61, Try.ntmps61
    go_wp2
    exact bodyPost_ret (v := .tuple #[.agg #[.slice none 0 0, .slice none 0 0, .slice none 0 0], .int .i64 6]) (by simp [results, Try.results61, go_sem]) rfl ⟨rfl, HB.out⟩

def RNew (w wx : World) (k : Nat) (p : Value) : Prop := ∃ b g1 g2, p = .pointer (some ⟨b, 0, none⟩) ∧ Bx wx b [.slice (some ⟨g1, 0, none⟩) (k + 1) (k + 1), .slice (some ⟨g2, 0, none⟩) (k + 1) (k + 1), .slice none 0 0] ∧
  Rd (Value.int .i64) wx wx.heap.size (some ⟨g1, 0, none⟩) (0 :: natJ (List.replicate k 0)) ∧ Rd (Value.int .i64) wx wx.heap.size (some ⟨g2, 0, none⟩) (0 :: natJ (List.replicate k 0)) ∧ Bx wx w.heap.size [.slice none 0 0, .slice none 0 0, .slice none 0 0] ∧
  b ≠ w.heap.size ∧ g1 ≠ b ∧ g2 ≠ b ∧ g1 ≠ w.heap.size ∧ g2 ≠ w.heap.size ∧ (w.heap.size ≤ b ∧ w.heap.size ≤ g1 ∧ w.heap.size ≤ g2) ∧ Below w.heap.size w wx
theorem rd_chg {M : Nat → Prop} {W W' : World} {g o : Nat} {L : List Int} (h : Rd (Value.int .i64) W W.heap.size (some ⟨g, o, none⟩) L) (hc : Chg M W W') (hg : ¬ M g) : Rd (Value.int .i64) W' W'.heap.size (some ⟨g, o, none⟩) L := fun i z hi => by
  obtain ⟨b, off, e, hb, hcell⟩ := h i z hi
  injection e with e
  injection e with e1 e2
  subst e1 e2
  exact ⟨g, o, rfl, Nat.lt_of_lt_of_le hb hc.size, (hc.cell (p := ⟨g, o + i, none⟩) hb hg).trans hcell⟩
theorem Bx.chg {M : Nat → Prop} {W W' : World} {b : Nat} {vs : List Value} (h : Bx W b vs) (hc : Chg M W W') (hb : ¬ M b) : Bx W' b vs :=
  ⟨Nat.lt_of_lt_of_le h.lt hc.size, fun j v hj => (hc.cell (p := ⟨b, j, none⟩) h.lt hb).trans (h.c j v hj), fun j => (hc.frozen (p := ⟨b, j, none⟩) h.lt hb).trans (h.f j)⟩
/-- A round of New's loop: its box b, the row that it owns. -/
structure RLp (wc wr : World) (b : Nat) (s1 s2 fv : Value) (L : List Nat) : Prop where
  bx : Bx wr b [s1, s2, fv]
  row : wr.ownsRow wc.heap.size 3 1 fv L.length (L.map natV)
  ch : Chg (fun x => x = b) wc wr
  lt : b < wc.heap.size
theorem RLp.put {wc wr W1 w2 : World} {b nn gg cap s : Nat} {A : Option Addr} {c : Nat} {s1 s2 : Value} {L : List Nat} (h : RLp wc wr b s1 s2 (.slice A nn c) L) (hb : Below wr.heap.size wr W1) (hg : W1.grownBy w2 (Value.slice A nn c).ownBlock) (hl : L.length = nn)
    (hown : w2.ownsRow wc.heap.size 3 1 (.slice (some ⟨gg, 0, none⟩) (nn + 1) cap) (nn + 1) (L.map natV ++ [.int .i64 (s : Int)])) : RLp wc (w2.setCell ⟨b, 2, none⟩ (.slice (some ⟨gg, 0, none⟩) (nn + 1) cap)) b s1 s2 (.slice (some ⟨gg, 0, none⟩) (nn + 1) cap) (L ++ [s]) := by
  subst hl
  have hown0 : ∀ g, (Value.slice A L.length c).ownBlock = some g → wc.heap.size ≤ g := fun g e => h.row.lt g e |>.1
  have hne : (Value.slice A L.length c).ownBlock ≠ some b := fun e => by have := hown0 b e; have := h.lt; omega
  have hcz := h.ch.size
  have hbl := h.lt
  have hw2 : Chg (fun x => x = b) wc w2 := (h.ch.trans (M' := fun x => (Value.slice A L.length c).ownBlock = some x) ((Chg.of_below hb).trans (M' := fun x => (Value.slice A L.length c).ownBlock = some x) ⟨hg.os, hg.tape, hg.output, hg.size, fun x hx hn => hg.block x hx (fun e => hn e.symm)⟩ (fun x e => .inl e)) (fun x e => .inr (hown0 x e)))
  have hbx : Bx w2 b [s1, s2, .slice A L.length c] := by
    have h1 := h.bx.below hb
    have q := hg.block b h1.lt (fun e => hne e.symm)
    exact ⟨Nat.lt_of_lt_of_le h1.lt hg.size, fun j v hj => (World.cell?_of_block (w := W1) q).trans (h1.c j v hj), fun j => (World.frozen?_of_block (w := W1) q).trans (h1.f j)⟩
  refine ⟨hbx.set 2 _, ?_, hw2.setCell rfl _, h.lt⟩
  have hg2 : wc.heap.size ≤ gg := (hown.lt gg rfl).1
  rw [List.length_append, List.map_append]
  exact ownsRow_same hown (fun g e => Below.heap_setCell _ _ _ _ (by
    have : gg = g := by injection e
    show g ≠ b
    omega))
theorem four (w : World) (R o1 o2 o3 : Obj) : ((((w.alloc R).alloc o1).alloc o2).alloc o3).drew.heap[w.heap.size]? = some R ∧ ((((w.alloc R).alloc o1).alloc o2).alloc o3).drew.heap[w.heap.size + 1]? = some o1 ∧
    ((((w.alloc R).alloc o1).alloc o2).alloc o3).drew.heap[w.heap.size + 1 + 1]? = some o2 ∧ ((((w.alloc R).alloc o1).alloc o2).alloc o3).drew.heap[w.heap.size + 1 + 1 + 1]? = some o3 ∧ Below w.heap.size w ((((w.alloc R).alloc o1).alloc o2).alloc o3).drew := by
  have s1 : (w.alloc R).heap.size = w.heap.size + 1 := by simp
  have s2 : ((w.alloc R).alloc o1).heap.size = w.heap.size + 1 + 1 := by simp
  have s3 : (((w.alloc R).alloc o1).alloc o2).heap.size = w.heap.size + 1 + 1 + 1 := by simp
  have e0 := heap_alloc_last w R
  have e1 := heap_alloc_last (w.alloc R) o1
  have e2 := heap_alloc_last ((w.alloc R).alloc o1) o2
  have e3 := heap_alloc_last (((w.alloc R).alloc o1).alloc o2) o3
  rw [s1] at e1
  rw [s2] at e2
  rw [s3] at e3
  have b1 := below_new (w.alloc R) o1
  have b2 := below_new ((w.alloc R).alloc o1) o2
  have b3 := below_new (((w.alloc R).alloc o1).alloc o2) o3
  refine ⟨?_, ?_, ?_, e3, (Below.next (below_new w R) (Below.next b1 (Below.next b2 b3))).drew⟩
  · exact (b3.block _ (by omega)).trans ((b2.block _ (by omega)).trans ((b1.block _ (by omega)).trans e0))
  · exact (b3.block _ (by omega)).trans ((b2.block _ (by omega)).trans e1)
  · exact (b3.block _ (by omega)).trans e2
theorem Bx.of_block {W : World} {b : Nat} {vs : List Value} {t : TypeId} (h : W.heap[b]? = some (.cells vs.toArray t)) : Bx W b vs :=
  ⟨(Array.getElem?_eq_some_iff.1 h).1, fun j v hj => (cell_of_row _ _ j _ t (0, 0) h).trans (by simpa using hj), fun j => by simp only [World.frozen?]; rw [h]; simp⟩
theorem RNew.of {w W : World} {k b g1 g2 : Nat} {mc : Array Value} (hm : mc = madeCells (Value.int .i64 0).cells (k + 1)) (hb : Below w.heap.size w W) (hR : W.heap[w.heap.size]? = some (.cells #[.slice none 0 0, .slice none 0 0, .slice none 0 0] 93))
    (h1 : W.heap[g1]? = some (.cells mc 3)) (h2 : W.heap[g2]? = some (.cells mc 3)) (hB : W.heap[b]? = some (.cells #[.slice (some ⟨g1, 0, none⟩) (k + 1) (k + 1), .slice (some ⟨g2, 0, none⟩) (k + 1) (k + 1), .slice none 0 0] 93))
    (hne : b ≠ w.heap.size ∧ g1 ≠ b ∧ g2 ≠ b ∧ g1 ≠ w.heap.size ∧ g2 ≠ w.heap.size ∧ w.heap.size ≤ b ∧ w.heap.size ≤ g1 ∧ w.heap.size ≤ g2) : RNew w W k (.pointer (some ⟨b, 0, none⟩)) := by
  have rr : ∀ g, W.heap[g]? = some (.cells mc 3) → Rd (Value.int .i64) W W.heap.size (some ⟨g, 0, none⟩) (0 :: natJ (List.replicate k 0)) := fun g hg i z hi => by
    have hlt : i < k + 1 := by
      have := (List.getElem?_eq_some_iff.1 hi).1
      rw [List.length_cons, natJ_len, List.length_replicate] at this
      omega
    have hz : z = 0 := by
      cases i with
      | zero => simpa using hi.symm
      | succ i =>
        rw [natJ_at (by rw [List.length_replicate]; omega), getD_rep] at hi
        simpa using hi.symm
    refine ⟨g, 0, rfl, (Array.getElem?_eq_some_iff.1 hg).1, ?_⟩
    rw [Nat.zero_add, cell_of_row _ _ i _ _ (0, 0) hg, hm, hz]
    unfold madeCells
    rw [Array.getElem?_map, Array.getElem?_range, if_pos hlt]
    show some ((#[Value.int .i64 0] : Array Value)[i % 1]!) = _
    rw [Nat.mod_one]
    rfl
  exact ⟨b, g1, g2, rfl, Bx.of_block hB, rr g1 h1, rr g2 h2, Bx.of_block hR, hne.1, hne.2.1, hne.2.2.1, hne.2.2.2.1, hne.2.2.2.2.1, hne.2.2.2.2.2, hb⟩
set_option maxRecDepth 100000 in
set_option maxHeartbeats 4000000 in
theorem RaNew_any (k : Nat) (h1 : 1 ≤ k) (h2 : k ≤ 4096) (w : World) : Calls Try.prog 61 #[.int .i64 (k : Int)] w fun e w' => ∃ V, e = .returned (.tuple #[V, .int .i64 0]) ∧ RA w' V (arNew k) ∧ Below w.heap.size w w' ∧ ∀ b, VB V b → w.heap.size ≤ b := by
  obtain ⟨i1, hi1, hy0, hy1, hy2⟩ := info_parts info_int_ar
  have hmk : ∀ W : World, (Instr.makeSlice 38 (.int .i64 ((k : Int) + 1)) (.int .i64 ((k : Int) + 1))).run Try.prog W = .ok (.slice (some ⟨W.heap.size, 0, none⟩) (k + 1) (k + 1)) (W.alloc (.cells (madeCells (Value.int .i64 0).cells (k + 1)) 3)) := fun W => by
    have := run_make (P := Try.prog) W 38 3 i1 _ Try.underlying38 hi1 hy0 .i64 .i64 ((k : Int) + 1) ((k : Int) + 1) (by omega) (Int.le_refl _) (by rw [hy2]; omega) (by omega)
    rw [hy1] at this
    rw [show ((k : Int) + 1).toNat = k + 1 by omega] at this
    simpa using this
  have k1 : ¬ (k : Int) < 1 := by omega
  have k2 : ¬ (4096 : Int) < (k : Int) := by omega
  obtain ⟨mc, hmc⟩ : ∃ mc, mc = madeCells (Value.int .i64 0).cells (k + 1) := ⟨_, rfl⟩
  rw [← hmc] at hmk
  have HM := Lib.hid hmc
  clear hmc
  go_enter Try.func61, Try.ntmps61
  go_upto_region 3 with (fail)
  go_cut [4] (fun p wx => RNew w wx k p)
  case first =>
    go_region
    all_goals
      go_wp2
      go_meet
    all_goals obtain ⟨q0, q1, q2, q3, qb⟩ := four w (.cells #[.slice none 0 0, .slice none 0 0, .slice none 0 0] 93) _ _ _
    all_goals
      first
        | exact RNew.of HM.out qb q0 q1 q2 q3 (by omega)
        | exact RNew.of HM.out qb q0 q2 q1 q3 (by omega)
        | exact RNew.of HM.out qb q0 q1 q3 q2 (by omega)
        | exact RNew.of HM.out qb q0 q3 q1 q2 (by omega)
        | exact RNew.of HM.out qb q0 q2 q3 q1 (by omega)
        | exact RNew.of HM.out qb q0 q3 q2 q1 (by omega)
  case rest =>
    obtain ⟨b, g1, g2, rfl, hB, hr1, hr2, hR, n1, n2, n3, n4, n5, n6', hbl⟩ := hcut
    have HG12 := Lib.hid n6'
    have n6 := n6'.1
    clear n6'
    have HK := Lib.hid (And.intro hr1 (And.intro hr2 (And.intro hR (And.intro n1 (And.intro n2 (And.intro n3 (And.intro n4 (And.intro n5 (And.intro n6 hbl)))))))))
    have hL : RLp wc wc b (.slice (some ⟨g1, 0, none⟩) (k + 1) (k + 1)) (.slice (some ⟨g2, 0, none⟩) (k + 1) (k + 1)) (.slice none 0 0) [] := ⟨hB, World.ownsRow_nil _ _ _ _, Chg.refl, hB.lt⟩
    have HL := Lib.hid hL
    clear hr1 hr2 hR n1 n2 n3 n4 n5 n6 hbl hL hB hmk
    generalize wc = wc at *
    go_wp2
    go_loopw [5] (fun i wr => ∃ (m : Nat) (fv : Value), m ≤ k ∧ i = .int .i64 (m : Int) ∧ RLp wc wr b (.slice (some ⟨g1, 0, none⟩) (k + 1) (k + 1)) (.slice (some ⟨g2, 0, none⟩) (k + 1) (k + 1)) fv (downL k (k - m))) (fun i _ => (intOf i).toNat)
    case atStart => exact ⟨k, _, Nat.le_refl _, rfl, by rw [Nat.sub_self]; exact HL.out⟩
    case round =>
      obtain ⟨m, fv, hm, rfl, hA⟩ := hrel
      by_cases hm1 : 1 ≤ m
      · have hi : (1 : Int) ≤ (m : Int) := by omega
        have hi2 : (m : Int) ≤ 4096 := by omega
        have c1 := hA.bx.c 2 _ rfl
        have c2 := hA.bx.f 2
        have hrow := hA.row
        obtain ⟨A, c, rfl, _, _⟩ := ownSlice hrow
        obtain ⟨nn, hnn⟩ : ∃ nn, (downL k (k - m)).length = nn := ⟨_, rfl⟩
        have hnn2 : nn ≤ 4096 := by rw [downL_len] at hnn; omega
        rw [hnn] at c1 hrow hA
        have hBl := hA.bx.lt
        have HD := Lib.hid (show downL k (k - (m - 1)) = downL k (k - m) ++ [m] by rw [show k - (m - 1) = (k - m) + 1 by omega, downL_succ, show k - (k - m) = m by omega])
        have HP := Lib.hid (fun W1 w2 gg cap (hb : Below wr.heap.size wr W1) (hg : W1.grownBy w2 (Value.slice A nn c).ownBlock) hown => hA.put (gg := gg) (cap := cap) (s := m) hb hg hnn hown)
        have HR := Lib.hid (hrow.alloc (.cells #[.int .i64 (m : Int)] 3))
        have HNE : Hid (some b ≠ (Value.slice A nn c).ownBlock) := Lib.hid fun e => by have := (hrow.lt b e.symm).1; have := hA.lt; omega
        have C1 := Lib.hid ((below_new wr (.cells #[.int .i64 (m : Int)] 3)).cell (p := ⟨b, 2, none⟩) hBl |>.trans c1)
        have F1 := Lib.hid ((below_new wr (.cells #[.int .i64 (m : Int)] 3)).frozen (p := ⟨b, 2, none⟩) hBl |>.trans c2)
        have HNW : Hid (∀ j u, [Value.int .i64 (m : Int)][j]? = some u → (wr.alloc (.cells #[.int .i64 (m : Int)] 3)).cell? (Addr.add ⟨wr.heap.size, 0, none⟩ j) = some u) := Lib.hid fun j u hj => by
          match j, hj with
          | 0, hj => simp at hj; subst hj; simp [Addr.add]
        have HON : Hid (∀ u ∈ [Value.int .i64 (m : Int)], u.oneCell' = true) := Lib.hid fun u hu => by simp at hu; subst hu; rfl
        have hsz := hA.ch.size
        clear hrow c2 hnn hA
        go_wp2_with (at_builtin; refine wpList_append_lies _ rfl _ _ 38 rfl wc.heap.size 3 i1 (.int .i64 0) 1 8 Try.underlying38 hi1 hy0 hy1 hy2 rfl (by decide) (.slice A nn c) nn ((downL k (k - m)).map natV) rfl HR.out ⟨wr.heap.size, 0, none⟩ 1 1 [.int .i64 (m : Int)] rfl rfl HNW.out HON.out (by decide) (by unfold maxLen; omega) (by omega) (by rw [World.size_alloc]; omega) (wr.heap.size + 1) (by simp) ?_; intro gg cap w6 hown6 hgrow hat hlt6; have q0 := hgrow.cell C1.out HNE.out; have q1 := (World.frozen?_of_block (a := ⟨b, 2, none⟩) (hgrow.block b (by rw [World.size_alloc]; omega) HNE.out)).trans F1.out; have HG := Lib.hid hgrow; have HO := Lib.hid hown6; clear hgrow hown6 hat hlt6)
        have hfin := HP.out _ w6 gg cap (below_new wr _) HG.out HO.out
        rw [← HD.out] at hfin
        have HFIN := Lib.hid hfin
        clear hfin HP HR HNE C1 F1 HNW HON HG HO q0 q1 HD
        go_roundw
        case rel => exact ⟨m - 1, _, by omega, by rw [show ((m - 1 : Nat) : Int) = (m : Int) - 1 by omega], HFIN.out⟩
        case measure => simp [intOf]; omega
      · obtain rfl : m = 0 := by omega
        have x0 := hA.bx.c 0 _ rfl
        have x1 := hA.bx.c 1 _ rfl
        have x2 := hA.bx.c 2 _ rfl
        obtain ⟨hr1, hr2, hR, n1, n2, n3, n4, n5, n6, hbl⟩ := HK.out
        have hR2 := hR.chg hA.ch (fun e => n1 e.symm)
        have u0 := hR2.c 0 _ rfl
        have u1 := hR2.c 1 _ rfl
        have u2 := hR2.c 2 _ rfl
        have f0 := hR2.f 0
        have f1 := hR2.f 1
        have f2 := hR2.f 2
        have hrow := hA.row
        obtain ⟨A, c, rfl, hcc, hcm⟩ := ownSlice hrow
        have hlen : (downL k (k - 0)).length = k := by rw [downL_len, Nat.sub_zero]
        have hHA := hA
        rw [hlen] at x2 hrow hHA
        have HP := Lib.hid (hR2.put3 (.slice (some ⟨g1, 0, none⟩) (k + 1) (k + 1)) (.slice (some ⟨g2, 0, none⟩) (k + 1) (k + 1)) (.slice A k c))
        have hbw : Below w.heap.size w wr := hbl.trans (hA.ch.below (fun x e => by rw [e]; exact n6) hbl.size)
        have HB := Lib.hid (below_put3 hbw (Nat.le_refl _) (.slice (some ⟨g1, 0, none⟩) (k + 1) (k + 1)) (.slice (some ⟨g2, 0, none⟩) (k + 1) (k + 1)) (.slice A k c))
        have HRA : Hid (RA (((wr.setCell ⟨w.heap.size, 0, none⟩ (.slice (some ⟨g1, 0, none⟩) (k + 1) (k + 1))).setCell ⟨w.heap.size, 1, none⟩ (.slice (some ⟨g2, 0, none⟩) (k + 1) (k + 1))).setCell ⟨w.heap.size, 2, none⟩ (.slice A k c)) (.agg #[.slice (some ⟨g1, 0, none⟩) (k + 1) (k + 1), .slice (some ⟨g2, 0, none⟩) (k + 1) (k + 1), .slice A k c]) (arNew k)) := Lib.hid (by
          have hr : ∀ g, g ≠ w.heap.size → g ≠ b → Rd (Value.int .i64) wc wc.heap.size (some ⟨g, 0, none⟩) (0 :: natJ (List.replicate k 0)) → Rd (Value.int .i64) (((wr.setCell ⟨w.heap.size, 0, none⟩ (.slice (some ⟨g1, 0, none⟩) (k + 1) (k + 1))).setCell ⟨w.heap.size, 1, none⟩ (.slice (some ⟨g2, 0, none⟩) (k + 1) (k + 1))).setCell ⟨w.heap.size, 2, none⟩ (.slice A k c)) (((wr.setCell ⟨w.heap.size, 0, none⟩ (.slice (some ⟨g1, 0, none⟩) (k + 1) (k + 1))).setCell ⟨w.heap.size, 1, none⟩ (.slice (some ⟨g2, 0, none⟩) (k + 1) (k + 1))).setCell ⟨w.heap.size, 2, none⟩ (.slice A k c)).heap.size (some ⟨g, 0, none⟩) (0 :: natJ (List.replicate k 0)) := fun g e1 e2 h => by
            have hne : ∀ g' o, some (⟨g, 0, none⟩ : Addr) = some ⟨g', o, none⟩ → w.heap.size ≠ g' := fun g' o e => by
              injection e with e
              injection e with e
              omega
            exact rd_set1 (rd_set1 (rd_set1 (rd_chg h hA.ch e2) (a := ⟨w.heap.size, 0, none⟩) hne) (a := ⟨w.heap.size, 1, none⟩) hne) (a := ⟨w.heap.size, 2, none⟩) hne
          have hd : (arNew k).fr = downL k (k - 0) := by rw [Nat.sub_zero]; rfl
          refine ⟨some ⟨g1, 0, none⟩, k + 1, some ⟨g2, 0, none⟩, k + 1, A, c, ?_, hr g1 n4 n2 hr1, hr g2 n5 n3 hr2, ?_, by rw [hd]; exact hcc, hcm, by obtain ⟨g, e2, _, h5⟩ := ownPos hrow (by omega); exact ⟨g, 0, e2, by simp only [World.size_setCell]; exact h5⟩⟩
          · simp only [arNew, List.length_replicate, downL_len]
            rfl
          · rw [hd]
            have h3 : Rd (Value.int .i64) wr wr.heap.size A (natJ (downL k (k - 0))) := Rd.of_own (e := 3) (base := wc.heap.size) (n := k) (cap := c) (f := Value.int .i64) (by
              have : (natJ (downL k (k - 0))).map (Value.int .i64) = (downL k (k - 0)).map natV := by unfold natJ; rw [List.map_map]; rfl
              rw [this]
              exact hrow)
            have hne : ∀ g' o, A = some ⟨g', o, none⟩ → w.heap.size ≠ g' := fun g' o e => by
              subst e
              obtain ⟨g, e2, h4, _⟩ := ownPos hrow (by omega)
              injection e2 with e2
              injection e2 with e2
              have := hR.lt
              omega
            exact rd_set1 (rd_set1 (rd_set1 h3 (a := ⟨w.heap.size, 0, none⟩) hne) (a := ⟨w.heap.size, 1, none⟩) hne) (a := ⟨w.heap.size, 2, none⟩) hne)
        have HVB : Hid (∀ b, VB (aV (some ⟨g1, 0, none⟩) (k + 1) (k + 1) (some ⟨g2, 0, none⟩) (k + 1) (k + 1) A k c) b → w.heap.size ≤ b) := Lib.hid fun b h => by
          have hgl := HG12.out
          rcases VB_aV.1 h with ⟨o, e⟩ | ⟨o, e⟩ | ⟨o, e⟩
          · injection e with e
            injection e with e
            omega
          · injection e with e
            injection e with e
            omega
          · obtain ⟨g, e2, h4, _⟩ := ownPos hrow (by omega)
            rw [e2] at e
            injection e with e
            injection e with e
            have := hbl.size
            omega
        clear hA hrow hHA hR2 hbw hr1 hr2 hR n1 n2 n3 n4 n5 n6 hbl HK HL hlen hcc hcm
        go_wp2
        have q0 := HP.out.c 0 _ rfl
        have q1 := HP.out.c 1 _ rfl
        have q2 := HP.out.c 2 _ rfl
        exact bodyPost_ret (v := .tuple #[.agg #[.slice (some ⟨g1, 0, none⟩) (k + 1) (k + 1), .slice (some ⟨g2, 0, none⟩) (k + 1) (k + 1), .slice A k c], .int .i64 0]) (by simp [results, Try.results61, go_sem, q0, q1, q2]) rfl ⟨_, rfl, HRA.out, HB.out, HVB.out⟩

end Go.Proofs.Ytoaikdnooafjmaa
