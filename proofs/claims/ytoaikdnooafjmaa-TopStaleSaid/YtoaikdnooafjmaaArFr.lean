/- arena's Move, Free, Alloc, New, by contract. -/
import Derived.Test.YtoaikdnooafjmaaArDo
import Derived.Test.YtoaikdnooafjmaaLits
import Derived.Deep.AppendLies
namespace Go.Proofs.Ytoaikdnooafjmaa
open Go.RowKit

theorem info_int_ar : (Try.prog.info? 3).map (fun i => (i.zero, i.size, i.bytes)) = some (some (.int .i64 0), 1, 8) := by kernel_rfl
theorem info_slot_ar : (Try.prog.info? 207).map (fun i => (i.zero, i.size, i.bytes)) = some (some (.agg #[.int .i64 0, .int .i64 0]), 2, 16) := by kernel_rfl
/-- What a change leaves of an arena. -/
def ArOut (w : World) (B bs : Nat) (fv : Value) (x : AR) (r : Value) (e : Ending) (w' : World) : Prop :=
  e = .returned r ∧ ∃ fv', Ar w' B bs fv' x ∧ Chg (ArM B bs fv) w w' ∧ ∀ g, fv'.ownBlock = some g → fv.ownBlock = some g ∨ w.heap.size ≤ g
section
variable {w w2 : World} {B bs n : Nat} {fv fv' : Value} {st gn fr : List Nat} {cn : Nat → Int} {x : AR}
theorem ArOut.same (h : Ar w B bs fv x) (r : Value) : ArOut w B bs fv x r (.returned r) w := ⟨rfl, fv, h, Chg.refl, fun _ e => .inl e⟩
/-- Another list of those that are free, in a memory where the arena's row and its slots are what they were. -/
theorem ArC.swapFree (h : ArC w B bs fv st gn fr cn) (qB : w2.heap[B]? = w.heap[B]?) (qS : w2.heap[bs]? = w.heap[bs]?) {fr' : List Nat} (hr : w2.ownsRow 0 3 1 fv' fr'.length (fr'.map natV)) (hn : ∀ g, fv'.ownBlock = some g → g ≠ B ∧ g ≠ bs) : ArC (w2.setCell ⟨B, 1, none⟩ fv') B bs fv' st gn fr' cn := by
  have q : ∀ b, b ≠ B → (w2.setCell ⟨B, 1, none⟩ fv').heap[b]? = w2.heap[b]? := fun b hb => Below.heap_setCell _ _ _ _ hb
  have c2 : ∀ i, w2.cell? ⟨B, i, none⟩ = w.cell? ⟨B, i, none⟩ := fun i => World.cell?_of_block (w := w) qB
  have co : ∀ i, 1 ≠ i → (w2.setCell ⟨B, 1, none⟩ fv').cell? ⟨B, i, none⟩ = w.cell? ⟨B, i, none⟩ := fun i hi => (World.cell?_setCell_other _ _ _ _ (fun e => hi (by injection e))).trans (c2 i)
  have f : ∀ i, (w2.setCell ⟨B, 1, none⟩ fv').frozen? ⟨B, i, none⟩ = w.frozen? ⟨B, i, none⟩ := fun i => (World.frozen?_setCell _ _ _ _).trans (World.frozen?_of_block (w := w) qB)
  have cW : ∀ i, (w2.setCell ⟨B, 1, none⟩ fv').cell? ⟨bs, i, none⟩ = w.cell? ⟨bs, i, none⟩ := fun i => World.cell?_of_block (w := w) ((q bs h.ns).trans qS)
  have fW : ∀ i, (w2.setCell ⟨B, 1, none⟩ fv').frozen? ⟨bs, i, none⟩ = w.frozen? ⟨bs, i, none⟩ := fun i => World.frozen?_of_block (w := w) ((q bs h.ns).trans qS)
  exact {
    c0 := (co 0 (by omega)).trans h.c0, c1 := ⟨World.cell?_setCell_same _ _ _ ((c2 1).trans h.c1.1), (f _).trans h.c1.2⟩
    cc := fun i hi => ⟨(co _ (by omega)).trans (h.cc i hi).1, (f _).trans (h.cc i hi).2⟩
    sl := fun k hk => ⟨⟨(cW _).trans (h.sl k hk).1.1, (fW _).trans (h.sl k hk).1.2⟩, (cW _).trans (h.sl k hk).2.1, (fW _).trans (h.sl k hk).2.2⟩
    row := ownsRow_same hr (fun g hg => q g (hn g hg).1), ns := h.ns, nf := hn }
/-- One more is free. -/
theorem ArC.putFree (h : ArC w B bs fv st gn fr cn) (hp : 1 ≤ st.length) {W1 : World} {gg cap s nn : Nat} {z : Int} (hb : Below w.heap.size w W1) (hg : W1.grownBy w2 fv.ownBlock) (hnn : fr.length = nn) (hz : z = (s : Int))
    (hown : w2.ownsRow 0 3 1 (.slice (some ⟨gg, 0, none⟩) (nn + 1) cap) (nn + 1) (fr.map natV ++ [.int .i64 z])) (hat : fv.ownBlock = some gg ∨ gg = W1.heap.size) :
    ArC (w2.setCell ⟨B, 1, none⟩ (.slice (some ⟨gg, 0, none⟩) (nn + 1) cap)) B bs (.slice (some ⟨gg, 0, none⟩) (nn + 1) cap) st gn (fr ++ [s]) cn ∧
      Chg (ArM B bs fv) w (w2.setCell ⟨B, 1, none⟩ (.slice (some ⟨gg, 0, none⟩) (nn + 1) cap)) ∧ (∀ g, (Value.slice (some ⟨gg, 0, none⟩) (nn + 1) cap).ownBlock = some g → fv.ownBlock = some g ∨ w.heap.size ≤ g) := by
  subst hnn hz
  have h1 := h.lt
  have h2 := h.slt hp
  have hs := hb.size
  have hgw : fv.ownBlock = some gg ∨ w.heap.size ≤ gg := hat.imp id (fun e => by omega)
  have qB : w2.heap[B]? = w.heap[B]? := (hg.block B (by omega) (fun e => (h.nf B e.symm).1 rfl)).trans (hb.block B h1)
  have qS : w2.heap[bs]? = w.heap[bs]? := (hg.block bs (by omega) (fun e => (h.nf bs e.symm).2 rfl)).trans (hb.block bs h2)
  have hgg : gg ≠ B ∧ gg ≠ bs := by
    rcases hgw with e | e
    · exact h.nf gg e
    · exact ⟨by omega, by omega⟩
  have e1 : (fr ++ [s]).length = fr.length + 1 := by simp
  refine ⟨h.swapFree qB qS ?_ (fun g e => ?_), ?_, fun g e => ?_⟩
  · rw [e1, List.map_append]
    exact hown
  · have : gg = g := by injection e
    subst this
    exact hgg
  · have hc : Chg (ArM B bs fv) w W1 := Chg.of_below hb
    have hc2 : Chg (ArM B bs fv) w w2 := hc.trans (M' := fun b => some b = fv.ownBlock) ⟨hg.os, hg.tape, hg.output, hg.size, fun b hb hn => hg.block b hb hn⟩ (fun b e => .inl (.inr (.inr e.symm)))
    exact hc2.setCell (.inl rfl) _
  · have : gg = g := by injection e
    subst this
    exact hgw
theorem cnt_set {st : List Nat} {k o s : Nat} (hk : k < st.length) (ho : st.getD k 0 = o) (hos : o ≠ s) (j : Nat) :
    updN (updN (fun j => ((st.count j : Nat) : Int)) o (((st.count o : Nat) : Int) - 1)) s (((st.count s : Nat) : Int) + 1) j = (((st.set k s).count j : Nat) : Int) := by
  have h1 := count_pos_at st hk
  rw [ho] at h1
  rw [count_set st hk, ho]
  unfold updN
  by_cases e1 : j = s
  · subst e1
    rw [if_pos rfl, if_neg hos, if_pos rfl]
    omega
  · rw [if_neg e1, if_neg (show ¬ s = j from fun e => e1 e.symm)]
    by_cases e2 : j = o
    · subst e2
      rw [if_pos rfl, if_pos rfl]
      omega
    · rw [if_neg e2, if_neg (show ¬ o = j from fun e => e2 e.symm)]
      show ((st.count j : Nat) : Int) = _
      omega
/-- set gives another state. -/
theorem arSet_ar {st gn fr : List Nat} (h : ArC w B bs fv st gn fr fun j => ((st.count j : Nat) : Int)) {k o s : Nat} (hk : k < st.length) (hl : gn.length = st.length) (hfew : st.length ≤ 4096) (ho : st.getD k 0 = o) (ho5 : o < 5) (hs5 : s < 5) (hos : o ≠ s) :
    Calls Try.prog 144 #[.pointer (some ⟨B, 0, none⟩), .int .i64 ((k : Int) + 1), .int .i64 (s : Int)] w fun e w' => e = .returned (.tuple #[]) ∧ ArC w' B bs fv (st.set k s) gn fr (fun j => (((st.set k s).count j : Nat) : Int)) ∧ Chg (fun b => b = B ∨ b = bs) w w' := by
  have b1 : ∀ j, (0 : Int) ≤ ((st.count j : Nat) : Int) ∧ ((st.count j : Nat) : Int) ≤ 4096 := fun j => ⟨by omega, by have := @List.count_le_length _ _ j st; omega⟩
  refine (arSet_any h hk hl hfew ho ho5 hs5 hos (b1 o) (b1 s)).mono ?_
  rintro e w' ⟨he, h1, h2⟩
  exact ⟨he, h1.eq (fun j _ => cnt_set hk ho hos j), h2⟩
set_option maxHeartbeats 1000000 in
theorem arMove_any (h : Ar w B bs fv x) (hf : AFit n x) (v t : Int) : Calls Try.prog 65 #[.pointer (some ⟨B, 0, none⟩), .int .i64 v, .int .i64 t] w (ArOut w B bs fv (arMvX x v t) (.bool (arMvB x v t))) := by
  have HS := Lib.hid (arState_any h rfl hf.few v)
  have HF := Lib.hid (follows_any (arSt x v) t w)
  rw [show arNext (arSt x v) t = arMvB x v t from rfl] at HF
  cases hb : arMvB x v t with
  | false =>
    have hx : arMvX x v t = x := by unfold arMvX; rw [hb]; rfl
    rw [hx]
    rw [hb] at HF
    have HO := Lib.hid (ArOut.same h (.bool false))
    generalize arSt x v = sv at *
    clear h hf hb hx
    go_enter Try.func65, Try.ntmps65
    go_wp2_with fail
    refine HS.out.mono ?_
    rintro e w1 ⟨rfl, rfl⟩
    go_wp2_with fail
    refine HF.out.mono ?_
    rintro e w1 ⟨rfl, rfl⟩
    go_wp2
    go_ret
    exact HO.out
  | true =>
    rw [hb] at HF
    obtain ⟨k, s, rfl, hk, rfl, h2, h4, hg, hx⟩ := arMv_nat hb
    rw [hx]
    have HT := Lib.hid (arSet_ar (s := s) h hk hf.len hf.few rfl (by omega) (by omega) (by omega))
    generalize arSt x ((k : Int) + 1) = sv at *
    clear h hf hb hx hk hg h2 h4
    go_enter Try.func65, Try.ntmps65
    go_wp2_with fail
    refine HS.out.mono ?_
    rintro e w1 ⟨rfl, rfl⟩
    go_wp2_with fail
    refine HF.out.mono ?_
    rintro e w1 ⟨rfl, rfl⟩
    go_wp2_with fail
    refine HT.out.mono ?_
    rintro e w1 ⟨rfl, h1, hc⟩
    have HO : Hid (ArOut w B bs fv { x with st := x.st.set k s } (.bool true) (.returned (.bool true)) w1) := Lib.hid ⟨rfl, fv, h1, hc.mono (fun b e => e.elim .inl (fun e => .inr (.inl e))), fun _ e => .inl e⟩
    clear h1 hc HT HF HS
    go_wp2
    go_ret
    exact HO.out
set_option maxRecDepth 100000 in
set_option maxHeartbeats 2000000 in
theorem arFree_any (h : Ar w B bs fv x) (hf : AFit n x) (hn : n < 100000) (v : Int) : Calls Try.prog 67 #[.pointer (some ⟨B, 0, none⟩), .int .i64 v] w (ArOut w B bs fv (arFrX x v) (.bool (arFrB x v))) := by
  have HS := Lib.hid (arState_any h rfl hf.few v)
  cases hb : arFrB x v with
  | false =>
    have hx : arFrX x v = x := by unfold arFrX; rw [hb]; rfl
    rw [hx]
    have hb2 := of_decide_eq_false (show decide (arSt x v = 1 ∨ arSt x v = 4) = false from hb)
    have HO := Lib.hid (ArOut.same h (.bool false))
    generalize arSt x v = sv at *
    have hs1 : (sv != 1) = true := by simpa using fun e => hb2 (.inl e)
    have hs4 : (sv != 4) = true := by simpa using fun e => hb2 (.inr e)
    clear h hf hb hx hb2
    go_enter Try.func67, Try.ntmps67
    go_wp2_with fail
    refine HS.out.mono ?_
    rintro e w1 ⟨rfl, rfl⟩
    go_wp2
    go_ret
    exact HO.out
  | true =>
    obtain ⟨i0, hi0, hz0, hz1, hz2⟩ := info_parts info_int_ar
    obtain ⟨k, rfl, hk, hg, hx⟩ := arFr_nat hb
    rw [hx]
    rw [arSt_in hk] at HS
    have hfew := hf.few
    have hp := hf.pos
    have hgb := hf.gb k
    have hfl := hf.frl
    have HT := Lib.hid (arSet_ar (s := 0) h hk hf.len hf.few rfl (by omega) (by omega) (by omega))
    have HL := Lib.hid hf.len
    have hk0 : (0 : Int) ≤ (k : Int) := by omega
    have hk1 : (k : Int) < (x.st.length : Int) := by omega
    obtain ⟨z, hz⟩ : ∃ z : Int, (k : Int) + 1 = z := ⟨_, rfl⟩
    rw [hz] at HS HT
    rw [hz]
    have HZ := Lib.hid (show z = ((k + 1 : Nat) : Int) by omega)
    have hk2 : z - 1 = (k : Int) := by omega
    have hk3 : z ≤ 4096 := by omega
    have hk4 : 1 ≤ z := by omega
    generalize x.st.getD k 0 = o at *
    clear h hf hb hx hz
    rcases hg with rfl | rfl
    all_goals
      go_enter Try.func67, Try.ntmps67
      go_wp2_with fail
      refine HS.out.mono ?_
      rintro e w1 ⟨rfl, rfl⟩
      go_wp2_with fail
      refine HT.out.mono ?_
      rintro e w1 ⟨rfl, h1, hc⟩
      have c0 := h1.c0
      rw [List.length_set] at c0
      obtain ⟨r1, r2⟩ := (h1.sl k (by rw [List.length_set]; exact hk)).2
      generalize hgv : x.gn.getD k 0 = gv at *
      have hgv1 : (gv : Int) < 100000 := by omega
      have H2 := Lib.hid (h1.setSlot (k := k) (by rw [List.length_set]; exact hk) (by rw [List.length_set]; exact HL.out) (v := gv + 1) (.inr ⟨rfl, rfl, rfl⟩))
      have HC2 := Lib.hid ((hc.mono (M' := ArM B bs fv) (fun b e => e.elim .inl (fun e => .inr (.inl e)))).setCell (b := bs) (o := k * 2 + 1) (.inr (.inl rfl)) (.int .i64 ((gv + 1 : Nat) : Int)))
      rw [show ((gv + 1 : Nat) : Int) = (gv : Int) + 1 by omega] at H2 HC2
      clear h1 hc HT HS
      go_upto_region 6 with (fail)
      generalize w1.setCell ⟨bs, k * 2 + 1, none⟩ (.int .i64 ((gv : Int) + 1)) = V at *
      clear c0 r1 r2
      have c1 := H2.out.c1.1
      have c2 := H2.out.c1.2
      have hrow := H2.out.row
      obtain ⟨A, c, rfl, hnc, hcm⟩ := ownSlice hrow
      obtain ⟨nn, hnn⟩ : ∃ nn, x.fr.length = nn := ⟨_, rfl⟩
      rw [hnn] at c1 hrow hfl H2 HC2
      have hBl := H2.out.lt
      have HP := Lib.hid (fun W1 w2 gg cap (hb : Below V.heap.size V W1) (hg : W1.grownBy w2 (Value.slice A nn c).ownBlock) hown hat => H2.out.putFree (by rw [List.length_set]; exact hp) (gg := gg) (cap := cap) (s := k + 1) hb hg hnn HZ.out hown hat)
      have HGV := Lib.hid hgv
      have HNN := Lib.hid hnn
      have HR := Lib.hid (hrow.alloc (.cells #[.int .i64 z] 3))
      have HNE := Lib.hid (show some B ≠ (Value.slice A nn c).ownBlock from fun e => (H2.out.nf B e.symm).1 rfl)
      have C1 := Lib.hid ((below_new V (.cells #[.int .i64 z] 3)).cell (p := ⟨B, 1, none⟩) hBl |>.trans c1)
      have F1 := Lib.hid ((below_new V (.cells #[.int .i64 z] 3)).frozen (p := ⟨B, 1, none⟩) hBl |>.trans c2)
      have HNW : Hid (∀ j u, [Value.int .i64 z][j]? = some u → (V.alloc (.cells #[.int .i64 z] 3)).cell? (Addr.add ⟨V.heap.size, 0, none⟩ j) = some u) := Lib.hid fun j u hj => by
        match j, hj with
        | 0, hj => simp at hj; subst hj; simp [Addr.add]
      have HON : Hid (∀ u ∈ [Value.int .i64 z], u.oneCell' = true) := Lib.hid fun u hu => by simp at hu; subst hu; rfl
      clear hrow c2 hnn H2 hnc hcm hgv hgb
      go_wp2_with (at_builtin; refine wpList_append_lies _ rfl _ _ 38 rfl 0 3 i0 (.int .i64 0) 1 8 Try.underlying38 hi0 hz0 hz1 hz2 rfl (by decide) (.slice A nn c) nn (x.fr.map natV) rfl HR.out ⟨V.heap.size, 0, none⟩ 1 1 [.int .i64 z] rfl rfl HNW.out HON.out (by decide) (by unfold maxLen; omega) (by omega) (by omega) (V.heap.size + 1) (by simp) ?_; intro gg cap w6 hown6 hgrow hat hlt6; have q0 := hgrow.cell C1.out HNE.out; have q1 := (World.frozen?_of_block (a := ⟨B, 1, none⟩) (hgrow.block B (by rw [World.size_alloc]; omega) HNE.out)).trans F1.out; have HG := Lib.hid hgrow; have HO := Lib.hid hown6; have HA := Lib.hid hat; clear hgrow hown6 hat hlt6)
      go_ret
      obtain ⟨g1, g2, g3⟩ := HP.out _ w6 gg cap (below_new V _) HG.out HO.out (by rw [World.size_alloc]; exact HA.out)
      have hv2 := HGV.out
      subst hv2
      rw [HNN.out]
      exact ⟨rfl, _, g1, HC2.out.trans g2 (fun b e => .inl e), fun g e => (g3 g e).imp id (fun e2 => Nat.le_trans HC2.out.size e2)⟩
end

end Go.Proofs.Ytoaikdnooafjmaa
