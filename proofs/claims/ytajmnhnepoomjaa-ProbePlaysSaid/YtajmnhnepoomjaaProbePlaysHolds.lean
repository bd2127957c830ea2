/- Whatever is offered, and asked, a probe tells what the document says (ProbePlays): for any vector, mask, number and deeds the program's probe and the document's answer alike; ProbePlays answers true, for every input. -/
import Derived.Test.YtajmnhnepoomjaaRefProbe
import Derived.Test.YtajmnhnepoomjaaPrbLives
import Derived.Test.YtajmnhnepoomjaaLawItems
import Derived.SizedLaws
import Derived.Test.YtajmnhnepoomjaaLaw
namespace Go.Proofs.Ytajmnhnepoomjaa
open Go.RowKit Go.Shelf Go.Sort Go.Lib Go.Maps

theorem VecIn.other {P : Nat → Prop} {W W' : World} {row : Option Nat} {A : Option Addr} {zs : List Int} (h : VecIn P W A zs) (hg : W.grownBy W' row) (hne : ∀ b o m, A = some ⟨b, o, m⟩ → zs ≠ [] → some b ≠ row) : VecIn P W' A zs := by
  refine ⟨⟨fun k z hz => ?_, h.v.len, h.v.all⟩, h.p⟩
  obtain ⟨b, off, hA, hb, hc⟩ := h.v.rd k z hz
  exact ⟨b, off, hA, Nat.lt_of_lt_of_le hb hg.size, (World.cell?_of_block (a := ⟨b, off + k, none⟩) (hg.block b hb (hne b off none hA (fun e => by subst e; simp at hz)))).trans hc⟩
theorem drop_sort (Z : List SpotT) (hZ : sortS Z = Z) (k : Nat) : sortS (Z.drop k) = Z.drop k := by
  refine sortS_eq (List.Perm.refl _) ?_
  rw [← hZ]
  exact (sortS_sorted Z).sublist (List.drop_sublist _ _)
theorem vecIn_of {P : Nat → Prop} {X W : World} {A : Option Addr} {zs : List Int} (hv : VecB X X.heap.size A zs) (hb : Below X.heap.size X W) (lo : ∀ g, g < X.heap.size → P g) : VecIn P W A zs := by
  refine ⟨(hv.below hb).more hb.size, fun b o m e hn => ?_⟩
  obtain ⟨x, hx⟩ : ∃ x, zs[0]? = some x := by
    cases zs with
    | nil => exact absurd rfl hn
    | cons x r => exact ⟨x, rfl⟩
  obtain ⟨b2, o2, e1, e2, _⟩ := hv.rd 0 x hx
  rw [e1] at e
  injection e with e
  injection e with e
  subst e
  exact lo _ e2

end Go.Proofs.Ytajmnhnepoomjaa

namespace Go.Proofs.Ytajmnhnepoomjaa
open Go.RowKit Go.Shelf Go.Sort Go.Lib Go.Maps

theorem gset (W : World) (a : Addr) (v : Value) : W.grownBy (W.setCell a v) (some a.block) :=
  ⟨rfl, rfl, rfl, by simp, fun k _ hk => by
    have hne : k ≠ a.block := fun e => hk (by rw [e])
    have h2 : ¬ a.block = k := fun e => hne e.symm
    simp [World.setCell, Array.getElem?_modify, h2]⟩
theorem gtrans {A B C : World} {r : Option Nat} (h : A.grownBy B r) (k : B.grownBy C r) (hs : A.heap.size ≤ B.heap.size) : A.grownBy C r :=
  ⟨k.os.trans h.os, k.tape.trans h.tape, k.output.trans h.output, Nat.le_trans h.size k.size, fun b hb hr => (k.block b (Nat.lt_of_lt_of_le hb hs) hr).trans (h.block b hb hr)⟩
theorem gset6 (W : World) (b : Nat) (u0 u1 u2 u3 u4 u5 : Value) : W.grownBy ((((((W.setCell ⟨b, 0, none⟩ u0).setCell ⟨b, 1, none⟩ u1).setCell ⟨b, 2, none⟩ u2).setCell ⟨b, 3, none⟩ u3).setCell ⟨b, 4, none⟩ u4).setCell ⟨b, 5, none⟩ u5) (some b) :=
  gtrans (gtrans (gtrans (gtrans (gtrans (gset W ⟨b, 0, none⟩ u0) (gset _ ⟨b, 1, none⟩ u1) (by simp)) (gset _ ⟨b, 2, none⟩ u2) (by simp)) (gset _ ⟨b, 3, none⟩ u3) (by simp)) (gset _ ⟨b, 4, none⟩ u4) (by simp)) (gset _ ⟨b, 5, none⟩ u5) (by simp)

/-- Numbers, and spots, whose block stays and is not the document's probe's. -/
structure KnIn (P : Nat → Prop) (BX : Nat) (W : World) (A : Option Addr) (K : List Int) : Prop where
  r : Rd (Value.int .i64) W W.heap.size A K
  p : ∀ b o, A = some ⟨b, o, none⟩ → K ≠ [] → P b ∧ b ≠ BX
structure SpIn (P : Nat → Prop) (BX : Nat) (W : World) (A : Option Addr) (Z : List SpotT) : Prop where
  r : RdS W W.heap.size A Z
  p : ∀ b o, A = some ⟨b, o, none⟩ → Z ≠ [] → P b ∧ b ≠ BX
section
variable {P P' : Nat → Prop} {BX : Nat} {W W' : World} {A : Option Addr} {K : List Int} {Z : List SpotT}
theorem KnIn.stay (h : KnIn P BX W A K) (hs : Stay P W W') : KnIn P BX W' A K := ⟨fun k z hz => by
  obtain ⟨b, off, e, hb, hc⟩ := h.r k z hz
  have hp := (h.p b off e (fun e => by subst e; simp at hz)).1
  exact ⟨b, off, e, Nat.lt_of_lt_of_le hb hs.size, (World.cell?_of_block (a := ⟨b, off + k, none⟩) (hs.blk b hp)).trans hc⟩, h.p⟩
theorem SpIn.stay (h : SpIn P BX W A Z) (hs : Stay P W W') : SpIn P BX W' A Z := ⟨fun k z hz => by
  obtain ⟨b, off, e, hb, h0, h1, h2⟩ := h.r k z hz
  have hp := (h.p b off e (fun e => by subst e; simp at hz)).1
  have c : ∀ i, W'.cell? ⟨b, i, none⟩ = W.cell? ⟨b, i, none⟩ := fun i => World.cell?_of_block (a := ⟨b, i, none⟩) (hs.blk b hp)
  exact ⟨b, off, e, Nat.lt_of_lt_of_le hb hs.size, (c _).trans h0, (c _).trans h1, (c _).trans h2⟩, h.p⟩
theorem KnIn.all6 (h : KnIn P BX W A K) (u0 u1 u2 u3 u4 u5 : Value) : Rd (Value.int .i64) ((((((W.setCell ⟨BX, 0, none⟩ u0).setCell ⟨BX, 1, none⟩ u1).setCell ⟨BX, 2, none⟩ u2).setCell ⟨BX, 3, none⟩ u3).setCell ⟨BX, 4, none⟩ u4).setCell ⟨BX, 5, none⟩ u5) ((((((W.setCell ⟨BX, 0, none⟩ u0).setCell ⟨BX, 1, none⟩ u1).setCell ⟨BX, 2, none⟩ u2).setCell ⟨BX, 3, none⟩ u3).setCell ⟨BX, 4, none⟩ u4).setCell ⟨BX, 5, none⟩ u5).heap.size A K := by
  by_cases hn : K = []
  · subst hn; intro k z hz; simp at hz
  · exact rd_all6 h.r (fun b o e => (h.p b o e hn).2) _ _ _ _ _ _
theorem KnIn.less (h : KnIn P BX W A K) (hp : ∀ k, P k → P' k) : KnIn P' BX W A K := ⟨h.r, fun b o e hn => ⟨hp b (h.p b o e hn).1, (h.p b o e hn).2⟩⟩
theorem SpIn.less (h : SpIn P BX W A Z) (hp : ∀ k, P k → P' k) : SpIn P' BX W A Z := ⟨h.r, fun b o e hn => ⟨hp b (h.p b o e hn).1, (h.p b o e hn).2⟩⟩
end

/-- A probe at bp, and the document's at BX: what the probe has (K, L, O), and what the document's has (K2, Z2, B2). -/
structure PlayAt (P : Nat → Prop) (X W : World) (BX bp bm bq bl : Nat) (Q' : Option Addr) (cq' : Nat) (Q : Option Addr) (q : List Int) (cq : Nat) (mask most : Int) (m nK : Nat) (K : List Int) (L O : List SpotT) (KA : Option Addr) (K2 : List Int) (kc : Nat) (WA : Option Addr) (Z2 : List SpotT) (wc : Nat) (BA : Option Addr) (B2 : List SpotT) (bc : Nat) : Prop where
  pr : PrbW [] P X W bp bm bq bl Q' q cq' mask m nK K L O
  six : SixC W BX (.slice Q q.length cq) (.int .u64 mask) (.int .i64 most) (.slice KA K2.length kc) (.slice WA Z2.length wc) (.slice BA B2.length bc)
  px : P BX
  nx : BX ≠ bp
  lx : X.heap.size ≤ BX
  kn : KnIn P BX W KA K2
  wa : SpIn P BX W WA Z2
  wl : Z2.length ≤ wc ∧ wc ≤ 9223372036854775807
  ba : SpIn P BX W BA B2
  lo : ∀ g, g < X.heap.size → P g
  qx : ∀ b o mm, Q' = some ⟨b, o, mm⟩ → q ≠ [] → b ≠ BX
section
variable {P : Nat → Prop} {X W W' : World} {BX bp bm bq bl : Nat} {Q' : Option Addr} {cq' : Nat} {Q : Option Addr} {q : List Int} {cq : Nat} {mask most : Int} {m nK nK' : Nat} {K K' : List Int} {L O L' O' : List SpotT} {KA KA' : Option Addr} {K2 K2' : List Int} {kc kc' : Nat} {WA WA' : Option Addr} {Z2 Z2' : List SpotT} {wc wc' : Nat} {BA BA' : Option Addr} {B2 B2' : List SpotT} {bc bc' : Nat}
theorem PlayAt.probe (h : PlayAt P X W BX bp bm bq bl Q' cq' Q q cq mask most m nK K L O KA K2 kc WA Z2 wc BA B2 bc) (hp : PrbW [] P X W' bp bm bq bl Q' q cq' mask m nK' K' L' O') (hs : Stay P W W') : PlayAt P X W' BX bp bm bq bl Q' cq' Q q cq mask most m nK' K' L' O' KA K2 kc WA Z2 wc BA B2 bc := by
  have c := fun i => hs.cell (a := ⟨BX, i, none⟩) h.px
  have f := fun i => World.frozen?_of_block (w := W) (w' := W') (a := ⟨BX, i, none⟩) (hs.blk BX h.px)
  have s := h.six
  exact { h with pr := hp, six := ⟨Nat.lt_of_lt_of_le s.lt hs.size, (c 0).trans s.c0, (c 1).trans s.c1, (c 2).trans s.c2, (c 3).trans s.c3, (c 4).trans s.c4, (c 5).trans s.c5, (f 0).trans s.f0, (f 1).trans s.f1, (f 2).trans s.f2, (f 3).trans s.f3, (f 4).trans s.f4, (f 5).trans s.f5⟩, kn := h.kn.stay hs, wa := h.wa.stay hs, ba := h.ba.stay hs }
theorem PlayAt.later (h : PlayAt P X W BX bp bm bq bl Q' cq' Q q cq mask most m nK K L O KA K2 kc WA Z2 wc BA B2 bc) (hb : Below W.heap.size W W') : PlayAt P X W' BX bp bm bq bl Q' cq' Q q cq mask most m nK K L O KA K2 kc WA Z2 wc BA B2 bc := h.probe (h.pr.later hb) (h.pr.stay hb)
theorem PlayAt.adds (h : PlayAt P X W BX bp bm bq bl Q' cq' Q q cq mask most m nK K L O KA K2 kc WA Z2 wc BA B2 bc) (hb : Below W.heap.size W W') :
    ∃ P', (∀ k, P k → P' k) ∧ (∀ k, W.heap.size ≤ k → k < W'.heap.size → P' k) ∧ PlayAt P' X W' BX bp bm bq bl Q' cq' Q q cq mask most m nK K L O KA K2 kc WA Z2 wc BA B2 bc := by
  have h2 := h.later hb
  exact ⟨_, fun k hk => .inl hk, fun k h1 h2 => .inr ⟨h1, h2⟩, { h2 with pr := h.pr.adds hb, px := .inl h.px, kn := h2.kn.less (fun _ hk => .inl hk), wa := h2.wa.less (fun _ hk => .inl hk), ba := h2.ba.less (fun _ hk => .inl hk), lo := fun g hg => .inl (h.lo g hg) }⟩
/-- The document's probe is stored. -/
theorem PlayAt.store (h : PlayAt P X W BX bp bm bq bl Q' cq' Q q cq mask most m nK K L O KA K2 kc WA Z2 wc BA B2 bc) (hk : KnIn P BX W KA' K2') (hw : SpIn P BX W WA' Z2') (hwl : Z2'.length ≤ wc' ∧ wc' ≤ 9223372036854775807) (hb : SpIn P BX W BA' B2') :
    PlayAt P X ((((((W.setCell ⟨BX, 0, none⟩ (.slice Q q.length cq)).setCell ⟨BX, 1, none⟩ (.int .u64 mask)).setCell ⟨BX, 2, none⟩ (.int .i64 most)).setCell ⟨BX, 3, none⟩ (.slice KA' K2'.length kc')).setCell ⟨BX, 4, none⟩ (.slice WA' Z2'.length wc')).setCell ⟨BX, 5, none⟩ (.slice BA' B2'.length bc')) BX bp bm bq bl Q' cq' Q q cq mask most m nK K L O KA' K2' kc' WA' Z2' wc' BA' B2' bc' := by
  have hg := gset6 W BX (.slice Q q.length cq) (.int .u64 mask) (.int .i64 most) (.slice KA' K2'.length kc') (.slice WA' Z2'.length wc') (.slice BA' B2'.length bc')
  have hv := h.pr.vec.other hg (fun b o mm e hn e2 => by injection e2 with e2; exact h.qx b o mm e hn e2)
  refine ⟨(h.pr.grown hg (fun k e => by injection e with e; subst e; exact ⟨h.px, h.lx, h.nx⟩) hv).less (fun _ hk => .inl hk) hv, h.six.all6 _ _ _ _ _ _, h.px, h.nx, h.lx, ⟨hk.all6 _ _ _ _ _ _, hk.p⟩, ⟨rdS_all6 hw.r (fun b o e hn => (hw.p b o e hn).2) _ _ _ _ _ _, hw.p⟩, hwl, ⟨rdS_all6 hb.r (fun b o e hn => (hb.p b o e hn).2) _ _ _ _ _ _, hb.p⟩, h.lo, h.qx⟩
end

end Go.Proofs.Ytajmnhnepoomjaa

namespace Go.Proofs.Ytajmnhnepoomjaa
open Go.RowKit Go.Shelf Go.Sort Go.Lib Go.Maps

theorem sort_tail (L : List SpotT) : sortS (sortS L).tail = (sortS L).tail := by
  rw [← List.drop_one]
  exact drop_sort _ (sortS_eq (List.Perm.refl _) (sortS_sorted _)) 1

/-- Where a row that is told lies: where the one that came in lay, or above n. -/
def FromR {α : Type} (n : Nat) (A : Option Addr) (Z : List α) (A' : Option Addr) (Z' : List α) : Prop :=
  ∀ b o, A' = some ⟨b, o, none⟩ → Z' ≠ [] → (∃ o', A = some ⟨b, o', none⟩ ∧ Z ≠ []) ∨ n ≤ b
theorem FromR.same {α : Type} {n : Nat} {A : Option Addr} {Z : List α} : FromR n A Z A Z := fun _ o e hn => .inl ⟨o, e, hn⟩

theorem KnIn.from {P P' : Nat → Prop} {BX n : Nat} {W W' : World} {A A' : Option Addr} {K K' : List Int} (h : KnIn P BX W A K) (hle : ∀ k, P k → P' k) (hnew : ∀ k, n ≤ k → k < W'.heap.size → P' k) (hbx : BX < n) (hr : Rd (Value.int .i64) W' W'.heap.size A' K') (hf : FromR n A K A' K') : KnIn P' BX W' A' K' := ⟨hr, fun b o e hn => by
  rcases hf b o e hn with ⟨o', e', hn'⟩ | hlt
  · exact ⟨hle b (h.p b o' e' hn').1, (h.p b o' e' hn').2⟩
  · obtain ⟨z, zs, hz⟩ := List.exists_cons_of_ne_nil hn
    obtain ⟨b', off, e', hb, -⟩ := hr 0 z (by rw [hz]; rfl)
    rw [e] at e'
    injection e' with e'
    injection e' with e1 e2
    subst e1
    exact ⟨hnew b hlt hb, by omega⟩⟩
theorem SpIn.from {P P' : Nat → Prop} {BX n : Nat} {W W' : World} {A A' : Option Addr} {Z Z' : List SpotT} (h : SpIn P BX W A Z) (hle : ∀ k, P k → P' k) (hnew : ∀ k, n ≤ k → k < W'.heap.size → P' k) (hbx : BX < n) (hr : RdS W' W'.heap.size A' Z') (hf : FromR n A Z A' Z') : SpIn P' BX W' A' Z' := ⟨hr, fun b o e hn => by
  rcases hf b o e hn with ⟨o', e', hn'⟩ | hlt
  · exact ⟨hle b (h.p b o' e' hn').1, (h.p b o' e' hn').2⟩
  · exact ⟨hnew b hlt (rdS_lt hr e hn), by omega⟩⟩

theorem refWant_any (Q : Option Addr) (qn cq : Nat) (mask most : Int) (KA : Option Addr) (kn kc : Nat) (WA : Option Addr) (wc : Nat) (BA : Option Addr) (bc : Nat) (L O : List SpotT) (w : World) (hW : RdS w w.heap.size WA (sortS L)) (hB : RdS w w.heap.size BA (keepS (bestN most) O)) (hl : L.length ≤ 100000) (hwc : (sortS L).length ≤ wc ∧ wc ≤ 9223372036854775807) (s : Int) (b : Bool) (hb : hopeB (bestN most) L O = b) (hs : wantN (bestN most) L O = s) :
    Calls Try.prog 25 #[.agg #[.slice Q qn cq, .int .u64 mask, .int .i64 most, .slice KA kn kc, .slice WA (sortS L).length wc, .slice BA (keepS (bestN most) O).length bc]] w fun e w' => (∃ WA' wc', e = .returned (.tuple #[.agg #[.slice Q qn cq, .int .u64 mask, .int .i64 most, .slice KA kn kc, .slice WA' (sortS (wantL (bestN most) L O)).length wc', .slice BA (keepS (bestN most) O).length bc], .int .i64 s, .bool b]) ∧ RdS w' w'.heap.size WA' (sortS (wantL (bestN most) L O)) ∧ FromR w.heap.size WA (sortS L) WA' (sortS (wantL (bestN most) L O)) ∧ (sortS (wantL (bestN most) L O)).length ≤ wc' ∧ wc' ≤ 9223372036854775807) ∧ Below w.heap.size w w' := by
  cases b
  · have h1 : wantL (bestN most) L O = L := by unfold wantL; rw [hb]; rfl
    have h2 : s = 0 := by rw [← hs]; unfold wantN; rw [hb]; rfl
    rw [h1, h2]
    exact (refWant_no Q qn cq mask most KA kn kc WA wc BA bc L O w hW hB hl hb).mono fun e w' ⟨he, hbb⟩ => ⟨⟨WA, wc, he, (hW.below hbb).more hbb.size, FromR.same, hwc.1, hwc.2⟩, hbb⟩
  · have h1 : wantL (bestN most) L O = (sortS L).tail := by unfold wantL; rw [hb]; rfl
    have h2 : s = (spAt (sortS L) 0).2 := by rw [← hs]; unfold wantN; rw [hb]; rfl
    rw [h1, h2, sort_tail]
    exact (refWant_yes Q qn cq mask most KA kn kc WA wc BA bc L O w hW hB hl hwc hb).mono fun e w' ⟨⟨WA', wc', he, hr, hf, hc1, hc2⟩, hbb⟩ => ⟨⟨WA', wc', he, hr, fun b o e hn => by
      obtain ⟨o', e'⟩ := hf b o none e hn
      exact .inl ⟨o', e', fun e0 => hn (by rw [e0]; rfl)⟩, hc1, hc2⟩, hbb⟩

def offK (K : List Int) (s : Int) : List Int := if K.contains s then K else K ++ [s]
def offW (K : List Int) (L : List SpotT) (s : Int) (x : SpotT) : List SpotT := if K.contains s then L else L ++ [x]
def offF (K : List Int) (O : List SpotT) (s : Int) (x : SpotT) (t : Bool) : List SpotT := if K.contains s then O else if t = true then O ++ [x] else O
theorem offK_has (K : List Int) (s : Int) : (offK K s).contains s = true := by
  unfold offK
  split
  · assumption
  · simp
theorem offK_len (K : List Int) (s : Int) : (offK K s).length ≤ K.length + 1 := by unfold offK; split <;> simp
theorem offW_len (K : List Int) (L : List SpotT) (s : Int) (x : SpotT) : (offW K L s x).length ≤ L.length + 1 := by unfold offW; split <;> simp
theorem offF_len (K : List Int) (O : List SpotT) (s : Int) (x : SpotT) (t : Bool) : (offF K O s x t).length ≤ O.length + 1 := by
  unfold offF
  split
  · omega
  · split
    · simp
    · omega

theorem refOffB_any (Q : Option Addr) (q : List Int) (cq : Nat) (mask most : Int) (KA : Option Addr) (K : List Int) (kc : Nat) (WA : Option Addr) (wc : Nat) (BA : Option Addr) (bc : Nat) (L O : List SpotT) (s id : Int) (ZA : Option Addr) (zv : List Int) (zc : Nat) (tg : Int) (w : World) (hQ : VecB w w.heap.size Q q) (hK : Rd (Value.int .i64) w w.heap.size KA K) (hl : K.length ≤ 1000) (hW : RdS w w.heap.size WA (sortS L)) (hL : L.length ≤ 1000) (hB : RdS w w.heap.size BA (keepS (bestN most) O)) (hO : O.length ≤ 1000) (hz : VecB w w.heap.size ZA zv) (hwc : (sortS L).length ≤ wc ∧ wc ≤ 9223372036854775807) (x : SpotT) (hx : ((distI q ⟨id, ZA, zv, zc, tg⟩, id), s) = x) (b : Bool) (hb : K.contains s = !b) :
    Calls Try.prog 27 #[.agg #[.slice Q q.length cq, .int .u64 mask, .int .i64 most, .slice KA K.length kc, .slice WA (sortS L).length wc, .slice BA (keepS (bestN most) O).length bc], .int .i64 s, .agg #[.int .u64 id, .slice ZA zv.length zc, .int .u64 tg]] w fun e w' => (∃ KA' kc' WA' wc' BA' bc', e = .returned (.tuple #[.agg #[.slice Q q.length cq, .int .u64 mask, .int .i64 most, .slice KA' (offK K s).length kc', .slice WA' (sortS (offW K L s x)).length wc', .slice BA' (keepS (bestN most) (offF K O s x (bits .and .u64 tg mask == mask))).length bc'], .bool b]) ∧
      Rd (Value.int .i64) w' w'.heap.size KA' (offK K s) ∧ FromR w.heap.size KA K KA' (offK K s) ∧ RdS w' w'.heap.size WA' (sortS (offW K L s x)) ∧ FromR w.heap.size WA (sortS L) WA' (sortS (offW K L s x)) ∧ ((sortS (offW K L s x)).length ≤ wc' ∧ wc' ≤ 9223372036854775807) ∧
      RdS w' w'.heap.size BA' (keepS (bestN most) (offF K O s x (bits .and .u64 tg mask == mask))) ∧ FromR w.heap.size BA (keepS (bestN most) O) BA' (keepS (bestN most) (offF K O s x (bits .and .u64 tg mask == mask)))) ∧ Below w.heap.size w w' := by
  cases b
  · have h1 : K.contains s = true := hb
    have e1 : offK K s = K := if_pos h1
    have e2 : offW K L s x = L := if_pos h1
    have e3 : offF K O s x (bits .and .u64 tg mask == mask) = O := if_pos h1
    rw [e1, e2, e3]
    exact (refOffer_old Q q.length cq mask most KA K kc WA (sortS L).length wc BA (keepS (bestN most) O).length bc s ⟨id, ZA, zv, zc, tg⟩ w hK hl h1).mono fun e w' ⟨he, hbb⟩ => ⟨⟨KA, kc, WA, wc, BA, bc, he, (hK.below hbb).more hbb.size, FromR.same, (hW.below hbb).more hbb.size, FromR.same, hwc, (hB.below hbb).more hbb.size, FromR.same⟩, hbb⟩
  · have h1 : K.contains s = false := hb
    have h2 : ¬ K.contains s = true := by rw [h1]; decide
    have e1 : offK K s = K ++ [s] := if_neg h2
    have e2 : offW K L s x = L ++ [x] := if_neg h2
    have e3 : offF K O s x (bits .and .u64 tg mask == mask) = if bits .and .u64 tg mask = mask then O ++ [x] else O := by
      unfold offF
      rw [if_neg h2]
      by_cases ht : bits .and .u64 tg mask = mask
      · rw [if_pos ht, if_pos (by simpa using ht)]
      · rw [if_neg ht, if_neg (by simpa using ht)]
    rw [e1, e2, e3]
    subst hx
    exact (refOffer_new Q q cq mask most KA K kc WA wc BA bc L O s ⟨id, ZA, zv, zc, tg⟩ w hQ hK hl hW hL hB hO hz h1).mono fun e w' ⟨⟨KA', kc', WA', wc', BA', bc', he, r1, f1, r2, f2, c1, c2, r3, f3⟩, hbb⟩ => ⟨⟨KA', kc', WA', wc', BA', bc', by rw [he, List.length_append]; rfl, r1, fun b o e _ => .inr (f1 b o e), r2, fun b o e _ => .inr (f2 b o e), ⟨c1, c2⟩, r3, fun b o e hn => (f3 b o e hn).imp (fun ⟨e', hn'⟩ => ⟨o, e', hn'⟩) (fun h => h)⟩, hbb⟩

section
variable {rs : List HSp} {P : Nat → Prop} {X W : World} {bp bm bq bl : Nat} {Q : Option Addr} {q : List Int} {cq : Nat} {mask : Int} {m nK : Nat} {K : List Int} {L O : List SpotT}
theorem pOffer_any (h : PrbW rs P X W bp bm bq bl Q q cq mask m nK K L O) (s : Int) (hs : -9223372036854775808 ≤ s ∧ s ≤ 9223372036854775807) (id : Int) (ZA : Option Addr) (zv : List Int) (zc : Nat) (tg : Int) (hz : VecIn P W ZA zv) (hn : nK < 100000) (hL : L.length < 100000) (hO : O.length < 100000) (x : SpotT) (hx : ((distI q ⟨id, ZA, zv, zc, tg⟩, id), s) = x) (b : Bool) (hb : K.contains s = !b) :
    Calls Try.prog 28 #[.pointer (some ⟨bp, 0, none⟩), .int .i64 s, .agg #[.int .u64 id, .slice ZA zv.length zc, .int .u64 tg]] W fun e W' => e = .returned (.bool b) ∧ (∃ nK', nK' ≤ nK + 1 ∧ PrbW rs P X W' bp bm bq bl Q q cq mask m nK' (offK K s) (offW K L s x) (offF K O s x (bits .and .u64 tg mask == mask))) ∧ Stay P W W' := by
  cases b
  · have h1 : K.contains s = true := hb
    have e1 : offK K s = K := if_pos h1
    have e2 : offW K L s x = L := if_pos h1
    have e3 : offF K O s x (bits .and .u64 tg mask == mask) = O := if_pos h1
    rw [e1, e2, e3]
    exact (pOffer_old h s hs ⟨id, ZA, zv, zc, tg⟩ h1).mono fun e w' ⟨he, hbb⟩ => ⟨he, ⟨nK, Nat.le_succ _, h.later hbb⟩, h.stay hbb⟩
  · have h1 : K.contains s = false := hb
    have h2 : ¬ K.contains s = true := by rw [h1]; decide
    have e1 : offK K s = K ++ [s] := if_neg h2
    have e2 : offW K L s x = L ++ [x] := if_neg h2
    have e3 : offF K O s x (bits .and .u64 tg mask == mask) = if bits .and .u64 tg mask = mask then O ++ [x] else O := by
      unfold offF
      rw [if_neg h2]
      by_cases ht : bits .and .u64 tg mask = mask
      · rw [if_pos ht, if_pos (by simpa using ht)]
      · rw [if_neg ht, if_neg (by simpa using ht)]
    rw [e1, e2, e3]
    subst hx
    exact (pOffer_new h s hs ⟨id, ZA, zv, zc, tg⟩ hz h1 hn hL hO).mono fun e w' ⟨he, hp, hst⟩ => ⟨he, ⟨nK + 1, Nat.le_refl _, hp⟩, hst⟩
end

/-- What the loop keeps: the probe and the document's have and hold the same, behind k deeds. -/
def Play (X : World) (BX bp bm bq bl : Nat) (Q' : Option Addr) (cq' : Nat) (Q : Option Addr) (q : List Int) (cq : Nat) (mask most : Int) (k : Nat) (W : World) : Prop :=
  ∃ P nK K L O KA kc WA wc BA bc, PlayAt P X W BX bp bm bq bl Q' cq' Q q cq mask most (bestN most) nK K L O KA K kc WA (sortS L) wc BA (keepS (bestN most) O) bc ∧ nK ≤ k ∧ K.length ≤ k ∧ L.length ≤ k ∧ O.length ≤ k
theorem Play.below {X W : World} {BX bp bm bq bl : Nat} {Q' : Option Addr} {cq' : Nat} {Q : Option Addr} {q : List Int} {cq : Nat} {mask most : Int} {k : Nat} (h : Play X BX bp bm bq bl Q' cq' Q q cq mask most k W) : Below X.heap.size X W := by
  obtain ⟨P, nK, K, L, O, KA, kc, WA, wc, BA, bc, h, -⟩ := h
  exact h.pr.below
theorem sort_nil : sortS [] = [] := List.eq_nil_of_length_eq_zero (by rw [sortS_len]; rfl)
theorem keep_nil (m : Nat) : keepS m [] = [] := List.eq_nil_of_length_eq_zero (by rw [keepS_len]; simp)
theorem Play.start {X W V : World} {bp bm bq bl : Nat} {Q' : Option Addr} {cq' : Nat} (Q : Option Addr) {q : List Int} (cq : Nat) {mask : Int} (most : Int) (h : PrbW [] (fun k => k < X.heap.size ∨ (X.heap.size ≤ k ∧ k < V.heap.size)) X W bp bm bq bl Q' q cq' mask (bestN most) 0 [] [] []) :
    Play X W.heap.size bp bm bq bl Q' cq' Q q cq mask most 0 (W.alloc (.cells #[.slice Q q.length cq, .int .u64 mask, .int .i64 most, .slice none 0 0, .slice none 0 0, .slice none 0 0] 46)) := by
  have hb := below_new3 W (.cells #[.slice Q q.length cq, .int .u64 mask, .int .i64 most, .slice none 0 0, .slice none 0 0, .slice none 0 0] 46)
  refine ⟨fun k => (k < X.heap.size ∨ (X.heap.size ≤ k ∧ k < V.heap.size)) ∨ (W.heap.size ≤ k ∧ k < (W.alloc (.cells #[.slice Q q.length cq, .int .u64 mask, .int .i64 most, .slice none 0 0, .slice none 0 0, .slice none 0 0] 46)).heap.size), 0, [], [], [], none, 0, none, 0, none, 0, ?_, Nat.le_refl _, Nat.le_refl _, Nat.le_refl _, Nat.le_refl _⟩
  rw [sort_nil, keep_nil]
  exact ⟨h.adds hb, SixC.new _ _ _ _ _ _ _ _, .inr ⟨Nat.le_refl _, by simp⟩, by have := h.lp; omega, h.below.size, ⟨fun k z hz => by simp at hz, fun _ _ _ h => absurd rfl h⟩, ⟨fun k z hz => by simp at hz, fun _ _ _ h => absurd rfl h⟩, ⟨by decide, by decide⟩, ⟨fun k z hz => by simp at hz, fun _ _ _ h => absurd rfl h⟩, fun g hg => .inl (.inl hg), fun b o mm e hn => by
    have := h.pl b (h.vec.p b o mm e hn)
    omega⟩

end Go.Proofs.Ytajmnhnepoomjaa

namespace Go.Proofs.Ytajmnhnepoomjaa
open Go.ChangeShapes Go.WideShapes Go.ChangeAt Go.RowKit Go.Joins Go.Deep

/-- A deed to a probe: is it asked what it wants; else what is offered. -/
structure AskT where
  want : Bool
  slot : Int
  it : ItT
/-- Deeds in memory, in blocks below B: five cells each. -/
def AskS (w : World) (B : Nat) (A : Option Addr) (ds : List AskT) : Prop :=
  ∀ k d, ds[k]? = some d → (∃ b off, A = some ⟨b, off, none⟩ ∧ b < B ∧ w.cell? ⟨b, off + k * 5, none⟩ = some (.bool d.want) ∧ w.cell? ⟨b, off + k * 5 + 1, none⟩ = some (.int .i64 d.slot) ∧ w.cell? ⟨b, off + k * 5 + 2, none⟩ = some (.int .u64 d.it.id) ∧ w.cell? ⟨b, off + k * 5 + 3, none⟩ = some (.slice d.it.A d.it.vec.length d.it.cap) ∧ w.cell? ⟨b, off + k * 5 + 4, none⟩ = some (.int .u64 d.it.tags)) ∧ VecB w B d.it.A d.it.vec ∧ (-9223372036854775808 ≤ d.slot ∧ d.slot ≤ 9223372036854775807) ∧ (0 ≤ d.it.tags ∧ d.it.tags ≤ 18446744073709551615)
theorem AskS.below {w w' : World} {B : Nat} {A : Option Addr} {ds : List AskT} (h : AskS w B A ds) (hb : Below B w w') : AskS w' B A ds := fun k d hd => by
  obtain ⟨⟨b, off, hA, hlt, h0, h1, h2, h3, h4⟩, hv, hw⟩ := h k d hd
  exact ⟨⟨b, off, hA, hlt, (hb.cell (p := ⟨b, off + k * 5, none⟩) hlt).trans h0, (hb.cell (p := ⟨b, off + k * 5 + 1, none⟩) hlt).trans h1, (hb.cell (p := ⟨b, off + k * 5 + 2, none⟩) hlt).trans h2, (hb.cell (p := ⟨b, off + k * 5 + 3, none⟩) hlt).trans h3, (hb.cell (p := ⟨b, off + k * 5 + 4, none⟩) hlt).trans h4⟩, hv.below hb, hw⟩

section
variable {H : Type} {enc : TypeId × Value → H} {P : Program} {w : World} {base : Nat}
theorem open_asks {t e q : TypeId} {d0 d1 d2 f0 f1 f2 : Field} {v : Value} {d : DataW H} {p : List MemPlace} (ht : P.underlying t = some (.slice e)) (hd : P.underlying e = some (.struct #[d0, d1, d2])) (hC : P.cellsOf e = 5)
    (p0 : d0.offset = 0) (l0 : P.cellsOf d0.type = 1) (p1 : d1.offset = 1) (l1 : P.cellsOf d1.type = 1) (p2 : d2.offset = 2) (l2 : P.cellsOf d2.type = 3) (ub : P.underlying d0.type = some .bool) (ui : P.underlying d1.type = some (.int .i64))
    (hs : P.underlying d2.type = some (.struct #[f0, f1, f2])) (hone : oneCellFields P #[f0, f1, f2] = true)
    (u0 : P.underlying f0.type = some (.int .u64)) (u1 : P.underlying f1.type = some (.slice q)) (u2 : P.underlying f2.type = some (.int .u64)) (hq : P.underlying q = some (.int .i32)) (hcq : P.cellsOf q = 1)
    (hv : Value.okWide P w .any base t v) (h : DataW.Trod enc P w 0 (fun _ => true) true t v d p) :
    ∃ (A : Option Addr) (zs : List AskT) (c : Nat), v = .slice A zs.length c ∧ AskS w w.heap.size A zs ∧ zs.length ≤ c ∧ c ≤ 9223372036854775807 ∧ (A = none → c = 0) := by
  obtain ⟨A, n, c, rfl, hnc, hn, hA, hc, hel⟩ := open_elems ht hC (by omega) hv h
  have H1 : ∀ i, i < n → ∃ z : AskT, (∃ b off, A = some ⟨b, off, none⟩ ∧ b < w.heap.size ∧ w.cell? ⟨b, off + i * 5, none⟩ = some (.bool z.want) ∧ w.cell? ⟨b, off + i * 5 + 1, none⟩ = some (.int .i64 z.slot) ∧ w.cell? ⟨b, off + i * 5 + 2, none⟩ = some (.int .u64 z.it.id) ∧ w.cell? ⟨b, off + i * 5 + 3, none⟩ = some (.slice z.it.A z.it.vec.length z.it.cap) ∧ w.cell? ⟨b, off + i * 5 + 4, none⟩ = some (.int .u64 z.it.tags)) ∧ VecB w w.heap.size z.it.A z.it.vec ∧ (-9223372036854775808 ≤ z.slot ∧ z.slot ≤ 9223372036854775807) ∧ (0 ≤ z.it.tags ∧ z.it.tags ≤ 18446744073709551615) := by
    intro i hi
    obtain ⟨b, off, cs, f, y, rfl, hb, hl, hcell, hy⟩ := hel i hi
    match cs, hl with
    | [c0, c1, c2, c3, c4], _ =>
      obtain ⟨ys, n', _, _, _, hylen, hyg⟩ := DataW.trod_struct hd hy
      match ys, hylen with
      | [z0, z1, z2], _ =>
        have e0 : DataW.trod enc P w 0 (fun _ => true) true n' d0.type [c0] = some z0 := by simpa [p0, l0] using hyg 0 d0 rfl
        have e1 : DataW.trod enc P w 0 (fun _ => true) true n' d1.type [c1] = some z1 := by simpa [p1, l1] using hyg 1 d1 rfl
        have e2 : DataW.trod enc P w 0 (fun _ => true) true n' d2.type [c2, c3, c4] = some z2 := by simpa [p2, l2] using hyg 2 d2 rfl
        obtain ⟨bb, hbb, _⟩ := DataW.trod_bool ub e0
        obtain ⟨si, hsi, _, wsi⟩ := DataW.trod_int ui e1
        obtain ⟨xs, n'', _, _, _, hlen, hg⟩ := DataW.trod_struct hs e2
        obtain ⟨o0, k0⟩ := hone_of hone 0 f0 rfl
        obtain ⟨o1, k1⟩ := hone_of hone 1 f1 rfl
        obtain ⟨o2, k2⟩ := hone_of hone 2 f2 rfl
        match xs, hlen with
        | [y0, y1, y2], _ =>
          have g0 : DataW.trod enc P w 0 (fun _ => true) true n'' f0.type [c2] = some y0 := by simpa [o0, k0] using hg 0 f0 rfl
          have g1 : DataW.trod enc P w 0 (fun _ => true) true n'' f1.type [c3] = some y1 := by simpa [o1, k1] using hg 1 f1 rfl
          have g2 : DataW.trod enc P w 0 (fun _ => true) true n'' f2.type [c4] = some y2 := by simpa [o2, k2] using hg 2 f2 rfl
          obtain ⟨a, ha, _, _⟩ := DataW.trod_int u0 g0
          obtain ⟨tg, htg, _, wtg⟩ := DataW.trod_int u2 g2
          obtain ⟨ZA, zs, zc, hz, hV⟩ := vec_of_trod u1 hq hcq g1
          simp at ha htg hbb hsi
          subst ha htg hz hbb hsi
          exact ⟨⟨bb, si, ⟨a, ZA, zs, zc, tg⟩⟩, ⟨b, off, rfl, hb, hcell 0 (by omega), hcell 1 (by omega), hcell 2 (by omega), hcell 3 (by omega), hcell 4 (by omega)⟩, hV, bounds_i64 wsi, bounds_u64 wtg⟩
  obtain ⟨zs, hlen, hzs⟩ := list_of n H1
  subst hlen
  exact ⟨A, zs, c, rfl, hzs, hnc, hc, hA⟩
end

end Go.Proofs.Ytajmnhnepoomjaa

namespace Go.Proofs.Ytajmnhnepoomjaa
open Go.RowKit Go.Shelf Go.Sort Go.Lib Go.Maps

/-- What the last region of a round keeps: two rows of the document's probe. -/
theorem play_all {X W : World} {BX : Nat} {u v : Value} (hlt : BX < X.heap.size) (h4 : X.cell? ⟨BX, 4, none⟩ = some u) (h5 : X.cell? ⟨BX, 5, none⟩ = some v) (hb : Below X.heap.size X W) :
    Below X.heap.size X W ∧ W.cell? ⟨BX, 4, none⟩ = some u ∧ W.cell? ⟨BX, 5, none⟩ = some v :=
  ⟨hb, (hb.cell (p := ⟨BX, 4, none⟩) hlt).trans h4, (hb.cell (p := ⟨BX, 5, none⟩) hlt).trans h5⟩

set_option maxRecDepth 100000 in
set_option maxHeartbeats 8000000 in
theorem ProbePlays_walk (Q : Option Addr) (q : List Int) (cq : Nat) (mask ef : Int) (A : Option Addr) (ds : List AskT) (ca : Nat) (w : World) (hQ : VecB w w.heap.size Q q) (hqb : q.length * 4 ≤ 140737488351232) (hD : AskS w w.heap.size A ds) (_hil : ds.length ≤ 9223372036854775807) :
    Calls Try.prog 5 #[.slice Q q.length cq, .int .u64 mask, .int .i64 ef, .slice A ds.length ca] w fun e w' => e = .returned (.bool true) ∧ Below w.heap.size w w' := by
  have mixed : Try.prog.follows .mixedOrders = true := by kernel_rfl
  have HD := Lib.hid hD
  have HQ := Lib.hid hQ
  clear hD hQ
  go_enter Try.func5, Try.ntmps5
  by_cases hlong : 100 < ds.length
  · have h1 : (100 : Int) < (ds.length : Int) := by omega
    go_wp2_with fail
    refine (prb_lives_any w).mono ?_
    rintro e w2 ⟨rfl, hb2⟩
    go_wp2
    go_ret
    exact ⟨rfl, hb2⟩
  have l1 : ¬ (100 : Int) < (ds.length : Int) := by omega
  have N : Hid (ds.length ≤ 100) := by rw [Hid]; omega
  have HNEW := Lib.hid (pNew_any (Fam.nil (P := fun k => k < w.heap.size) w (fun _ h => h)) Q q cq mask ef HQ.out hqb)
  clear hlong hqb
  go_wp2_with fail
  refine HNEW.out.mono ?_
  rintro e w3 ⟨V, bp, bm, bq, bl, Q', cq', rfl, hbV, hb3, hp⟩
  have HB0 := Lib.hid (Play.start Q cq ef hp)
  clear hbV hb3 hp HNEW
  go_upto_region 4 with (fail)
  generalize w3.alloc (.cells #[.slice Q q.length cq, .int .u64 mask, .int .i64 ef, .slice none 0 0, .slice none 0 0, .slice none 0 0] 46) = w4 at *
  generalize w3.heap.size = BX at *
  go_wp2
  go_loopw [36] (fun i wr => ∃ (k : Nat), k ≤ ds.length ∧ i = .int .i64 k ∧ Hid (Play w BX bp bm bq bl Q' cq' Q q cq mask ef k wr)) (fun i _ => ds.length - (intOf i).toNat)
  case atStart => exact ⟨0, Nat.zero_le _, rfl, HB0.out⟩
  case round =>
    clear HB0
    obtain ⟨k, hk, rfl, HPL⟩ := hrel
    have hbel : Below w.heap.size w wr := HPL.out.below
    by_cases hlt : k < ds.length
    · obtain ⟨d, hd⟩ : ∃ d, ds[k]? = some d := ⟨ds[k], List.getElem?_eq_getElem hlt⟩
      obtain ⟨⟨b, off, rfl, hb, h0, h1, h2, h3, h4⟩, hZ, hsl, -⟩ := (HD.out.below hbel) k d hd
      have hZ0 := (HD.out k d hd).2.1
      obtain ⟨wt, sl, id, ZA, zv, zc, tg⟩ := d
      simp only at h0 h1 h2 h3 h4 hsl hZ0
      have HZ := Lib.hid hZ0
      have HSL := Lib.hid hsl
      have hn100 := N.out
      have hkl : (k : Int) < (ds.length : Int) := by omega
      have hk0 : (0 : Int) ≤ (k : Int) := by omega
      have hkn : ((k : Int)).toNat = k := Int.toNat_natCast k
      have hbX := below_new3 wr (.cells #[.bool wt, .int .i64 sl, .int .u64 id, .slice ZA zv.length zc, .int .u64 tg] 48)
      have d0 : (wr.alloc (.cells #[.bool wt, .int .i64 sl, .int .u64 id, .slice ZA zv.length zc, .int .u64 tg] 48)).cell? ⟨wr.heap.size, 0, none⟩ = some (.bool wt) := by go_cell
      have d1 : (wr.alloc (.cells #[.bool wt, .int .i64 sl, .int .u64 id, .slice ZA zv.length zc, .int .u64 tg] 48)).cell? ⟨wr.heap.size, 1, none⟩ = some (.int .i64 sl) := by go_cell
      have d2 : (wr.alloc (.cells #[.bool wt, .int .i64 sl, .int .u64 id, .slice ZA zv.length zc, .int .u64 tg] 48)).cell? ⟨wr.heap.size, 2, none⟩ = some (.int .u64 id) := by go_cell
      have d3 : (wr.alloc (.cells #[.bool wt, .int .i64 sl, .int .u64 id, .slice ZA zv.length zc, .int .u64 tg] 48)).cell? ⟨wr.heap.size, 3, none⟩ = some (.slice ZA zv.length zc) := by go_cell
      have d4 : (wr.alloc (.cells #[.bool wt, .int .i64 sl, .int .u64 id, .slice ZA zv.length zc, .int .u64 tg] 48)).cell? ⟨wr.heap.size, 4, none⟩ = some (.int .u64 tg) := by go_cell
      have hDX : wr.heap.size < (wr.alloc (.cells #[.bool wt, .int .i64 sl, .int .u64 id, .slice ZA zv.length zc, .int .u64 tg] 48)).heap.size := by simp
      have HBX := Lib.hid hbX
      obtain ⟨P, nK, K, L, O, KA, kc, WA, wcc, BA, bc, HP0, hnK, hlK, hlL, hlO⟩ := HPL.out
      have HP := Lib.hid HP0
      have HP1 := Lib.hid (HP0.later hbX)
      clear HP0 HPL hbX hb hZ hZ0 hsl hbel hd
      go_upto_region 9 with (fail)
      generalize hX1 : wr.alloc (.cells #[.bool wt, .int .i64 sl, .int .u64 id, .slice ZA zv.length zc, .int .u64 tg] 48) = X1 at *
      generalize hDD : wr.heap.size = D at *
      have HDD := Lib.hid hDD
      have HDX := Lib.hid hDX
      clear h0 h1 h2 h3 h4 hX1 hDD hDX
      have hLs : (sortS L).length ≤ 1000 := by rw [sortS_len]; omega
      cases wt
      · obtain ⟨bo, hbo⟩ : ∃ b, K.contains sl = !b := ⟨!K.contains sl, by simp⟩
        obtain ⟨x, hx⟩ : ∃ x, ((distI q ⟨id, ZA, zv, zc, tg⟩, id), sl) = x := ⟨_, rfl⟩
        have hZ1 : VecB X1 X1.heap.size ZA zv := (HZ.out.below HP1.out.pr.below).more HP1.out.pr.below.size
        have hQ1 : VecB X1 X1.heap.size Q q := (HQ.out.below HP1.out.pr.below).more HP1.out.pr.below.size
        have HRO := Lib.hid (refOffB_any Q q cq mask ef KA K kc WA wcc BA bc L O sl id ZA zv zc tg X1 hQ1 HP1.out.kn.r (by omega) HP1.out.wa.r (by omega) HP1.out.ba.r (by omega) hZ1 HP1.out.wl x hx bo hbo)
        have HX := Lib.hid (And.intro hx hbo)
        clear hx hbo hZ1 hQ1
        obtain ⟨-, x0, x1, x2, x3, x4, x5, -⟩ := HP1.out.six
        have HDC := Lib.hid (And.intro d1 (And.intro d2 (And.intro d3 d4)))
        go_wp2_with fail
        refine HRO.out.mono ?_
        rintro e W4 ⟨⟨KA', kc', WA', wc', BA', bc', rfl, hr1, hf1, hr2, hf2, hc, hr3, hf3⟩, hb4⟩
        clear HRO x0 x1 x2 x3 x4 x5 d0 d1 d2 d3 d4
        generalize hK' : offK K sl = K' at *
        generalize hL' : offW K L sl x = L' at *
        generalize hO' : offF K O sl x (bits .and .u64 tg mask == mask) = O' at *
        have HOF := Lib.hid (And.intro hK' (And.intro hL' hO'))
        have lK' : K'.length ≤ K.length + 1 := by rw [← hK']; exact offK_len _ _
        have lL' : L'.length ≤ L.length + 1 := by rw [← hL']; exact offW_len _ _ _ _
        have lO' : O'.length ≤ O.length + 1 := by rw [← hO']; exact offF_len _ _ _ _ _
        have hhas : K'.contains sl = true := by rw [← hK']; exact offK_has _ _
        clear hK' hL' hO'
        go_upto_region 16 with (fail)
        have hb5 := below_new3 W4 (.cells #[.slice Q q.length cq, .int .u64 mask, .int .i64 ef, .slice KA' K'.length kc', .slice WA' (sortS L').length wc', .slice BA' (keepS (bestN ef) O').length bc'] 46)
        have hm5 := SixC.new W4 (.slice Q q.length cq) (.int .u64 mask) (.int .i64 ef) (.slice KA' K'.length kc') (.slice WA' (sortS L').length wc') (.slice BA' (keepS (bestN ef) O').length bc') 46
        have hb15 := hb4.trans (hb5.mono hb4.size)
        have hle := Nat.le_of_lt HDX.out
        have hb45 := HBX.out.trans (hb15.mono hle)
        obtain ⟨P5, hs5, hn5, h5⟩ := HP.out.adds (by rw [HDD.out]; exact hb45)
        have hbx : BX < X1.heap.size := HP1.out.six.lt
        have hk5 : KnIn P5 BX _ KA' K' := HP1.out.kn.from hs5 (fun k h1 h2 => hn5 k (Nat.le_trans HBX.out.size h1) h2) hbx ((hr1.below hb5).more hb5.size) hf1
        have hw5 : SpIn P5 BX _ WA' (sortS L') := HP1.out.wa.from hs5 (fun k h1 h2 => hn5 k (Nat.le_trans HBX.out.size h1) h2) hbx ((hr2.below hb5).more hb5.size) hf2
        have hbb5 : SpIn P5 BX _ BA' (keepS (bestN ef) O') := HP1.out.ba.from hs5 (fun k h1 h2 => hn5 k (Nat.le_trans HBX.out.size h1) h2) hbx ((hr3.below hb5).more hb5.size) hf3
        have hPD : P5 D := hn5 D (Nat.le_of_eq HDD.out) (Nat.lt_of_lt_of_le HDX.out hb15.size)
        have HPD := Lib.hid hPD
        have hne : D ≠ BX := by have := HP.out.six.lt; rw [HDD.out] at this; omega
        have HNE := Lib.hid hne
        have d1 := (hb15.cell (p := ⟨D, 1, none⟩) HDX.out).trans HDC.out.1
        have d2 := (hb15.cell (p := ⟨D, 2, none⟩) HDX.out).trans HDC.out.2.1
        have d3 := (hb15.cell (p := ⟨D, 3, none⟩) HDX.out).trans HDC.out.2.2.1
        have d4 := (hb15.cell (p := ⟨D, 4, none⟩) HDX.out).trans HDC.out.2.2.2
        have HK5 := Lib.hid hk5
        have HW5 := Lib.hid hw5
        have HBB5 := Lib.hid hbb5
        have HC5 := Lib.hid hc
        have H5 := Lib.hid h5
        obtain ⟨-, x0, x1, x2, x3, x4, x5, f0, f1, f2, f3, f4, f5⟩ := h5.six
        obtain ⟨-, m0, m1, m2, m3, m4, m5, -⟩ := hm5
        clear hb5 hb15 hb45 hk5 hw5 hbb5 hc h5 hr1 hf1 hr2 hf2 hr3 hf3 hb4 hs5 hn5 hPD hne hbx
        generalize W4.alloc (.cells #[.slice Q q.length cq, .int .u64 mask, .int .i64 ef, .slice KA' K'.length kc', .slice WA' (sortS L').length wc', .slice BA' (keepS (bestN ef) O').length bc'] 46) = W5 at *
        generalize W4.heap.size = D5 at *
        have h6 := H5.out.store (kc' := kc') (bc' := bc') HK5.out HW5.out HC5.out HBB5.out
        have H6 := Lib.hid h6
        have hz6 : VecIn P5 _ ZA zv := vecIn_of HZ.out h6.pr.below h6.lo
        have HOP := Lib.hid (pOffer_any h6.pr sl HSL.out id ZA zv zc tg hz6 (by omega) (by omega) (by omega) x HX.out.1 bo HX.out.2)
        clear h6 hz6 HK5 HW5 HBB5 HC5
        have HDC5 := Lib.hid (And.intro d1 (And.intro d2 (And.intro d3 d4)))
        go_upto_region 17 with (fail)
        clear d1 d2 d3 d4
        have y1 : ((((((W5.setCell ⟨BX, 0, none⟩ (.slice Q q.length cq)).setCell ⟨BX, 1, none⟩ (.int .u64 mask)).setCell ⟨BX, 2, none⟩ (.int .i64 ef)).setCell ⟨BX, 3, none⟩ (.slice KA' K'.length kc')).setCell ⟨BX, 4, none⟩ (.slice WA' (sortS L').length wc')).setCell ⟨BX, 5, none⟩ (.slice BA' (keepS (bestN ef) O').length bc')).heap[D]? = W5.heap[D]? := (gset6 W5 BX _ _ _ _ _ _).block D (World.block_lt_of_cell? _ _ HDC5.out.1) (by intro e; injection e with e; exact HNE.out e)
        have d1 := (World.cell?_of_block (a := ⟨D, 1, none⟩) y1).trans HDC5.out.1
        have d2 := (World.cell?_of_block (a := ⟨D, 2, none⟩) y1).trans HDC5.out.2.1
        have d3 := (World.cell?_of_block (a := ⟨D, 3, none⟩) y1).trans HDC5.out.2.2.1
        have d4 := (World.cell?_of_block (a := ⟨D, 4, none⟩) y1).trans HDC5.out.2.2.2
        clear y1 x0 x1 x2 x3 x4 x5 f0 f1 f2 f3 f4 f5 m0 m1 m2 m3 m4 m5 H5
        generalize (((((W5.setCell ⟨BX, 0, none⟩ (.slice Q q.length cq)).setCell ⟨BX, 1, none⟩ (.int .u64 mask)).setCell ⟨BX, 2, none⟩ (.int .i64 ef)).setCell ⟨BX, 3, none⟩ (.slice KA' K'.length kc')).setCell ⟨BX, 4, none⟩ (.slice WA' (sortS L').length wc')).setCell ⟨BX, 5, none⟩ (.slice BA' (keepS (bestN ef) O').length bc') = W6 at *
        have HD6 := Lib.hid d1
        go_wp2_with fail
        refine HOP.out.mono ?_
        rw [HOF.out.1, HOF.out.2.1, HOF.out.2.2]
        rintro e W7 ⟨rfl, ⟨nK', hnK', h7⟩, hs7⟩
        have e1 := (hs7.cell (a := ⟨D, 1, none⟩) HPD.out).trans HD6.out
        have HKN := Lib.hid (pKnows_val h7 sl HSL.out true hhas)
        have H7' := Lib.hid (H6.out.probe h7 hs7)
        clear h7 hs7 HOP H6 d1 d2 d3 d4
        go_wp2_with fail
        refine HKN.out.mono ?_
        rintro e W8 ⟨rfl, hb8⟩
        have H7 := Lib.hid (H7'.out.later hb8)
        clear hb8 HKN H7' e1
        have hl7 : L'.length ≤ k + 1 := by omega
        have hK7 : K'.length ≤ k + 1 := by omega
        have hO7 : O'.length ≤ k + 1 := by omega
        have hN7 : nK' ≤ k + 1 := by omega
        
        go_upto_region 19 with (fail)
        have H9 := Lib.hid (show PlayAt P5 w W8 BX bp bm bq bl Q' cq' Q q cq mask ef (bestN ef) nK' K' L' O' _ K' _ _ (sortS L') _ _ (keepS (bestN ef) O') _ from H7.out)
        have hx4 := H9.out.six.c4
        have hx5 := H9.out.six.c5
        have hxl := H9.out.six.lt
        have HWT : Hid (∀ W, Below W8.heap.size W8 W → Calls Try.prog 30 #[.pointer (some ⟨bp, 0, none⟩)] W fun e W' => e = .returned (.int .i64 (sortS L').length) ∧ Below W8.heap.size W8 W') := Lib.hid fun W hW => by
          rw [sortS_len]
          exact (pWaits_any (H9.out.later hW).pr).mono fun _ _ ⟨he, hw⟩ => ⟨he, hw ▸ hW⟩
        have HFD : Hid (∀ W, Below W8.heap.size W8 W → Calls Try.prog 32 #[.pointer (some ⟨bp, 0, none⟩)] W fun e W' => ∃ A2 c2, e = .returned (.slice A2 (keepS (bestN ef) O').length c2) ∧ Below W8.heap.size W8 W' ∧ RdS W' W'.heap.size A2 (keepS (bestN ef) O')) := Lib.hid fun W hW =>
          (pFound_any (H9.out.later hW).pr (by omega)).mono fun _ _ ⟨A2, c2, he, hr, _, _, hb⟩ => ⟨A2, c2, he, hW.trans (hb.mono hW.size), hr⟩
        have HSM : Hid (∀ W A2 c2 BA2 bc2, BA2 = BA' → Below W8.heap.size W8 W → RdS W W.heap.size A2 (keepS (bestN ef) O') → Calls Try.prog 31 #[.slice A2 (keepS (bestN ef) O').length c2, .slice BA2 (keepS (bestN ef) O').length bc2] W fun e W' => e = .returned (.bool true) ∧ Below W8.heap.size W8 W') := Lib.hid fun W A2 c2 BA2 bc2 he hW hr => by
          subst he
          exact (SameS_refl A2 BA2 (keepS (bestN ef) O') c2 bc2 W hr ((H9.out.later hW).ba.r) (by rw [keepS_len]; omega)).mono fun _ _ ⟨he, hd⟩ => ⟨he, hW.trans ((hd.below _).mono hW.size)⟩
        have HAL' := Lib.hid (fun W (hb : Below W8.heap.size W8 W) => play_all (W := W) hxl hx4 hx5 hb)
        have hX0 := Below.refl W8.heap.size W8
        clear H7 HBX HP HP1 N HD HQ HZ HSL HDD HDX hxl
        go_region_held3 (fun W => Below W8.heap.size W8 W ∧ W.cell? ⟨BX, 4, none⟩ = some (.slice WA' (sortS L').length wc') ∧ W.cell? ⟨BX, 5, none⟩ = some (.slice BA' (keepS (bestN ef) O').length bc'))
          (with_reducible first | assumption | exact HAL'.out _ (by assumption) | exact HAL'.out _ (below_dr (by assumption)) | exact HAL'.out _ (And.left (by assumption)) | exact HAL'.out _ (below_dr (And.left (by assumption))))
          (first
            | (go_at_call 30; (with_reducible refine Calls.mono (HWT.out _ (And.left (by assumption))) ?_); rintro e W11 ⟨rfl, hk11⟩)
            | (go_at_call 32; (with_reducible refine Calls.mono (HFD.out _ (And.left (by assumption))) ?_); rintro e W12 ⟨A12, c12, rfl, hk12, hr12⟩)
            | (go_at_call 31; (with_reducible refine Calls.mono (HSM.out W12 A12 c12 _ _ rfl hk12 hr12) ?_); rintro e W13 ⟨rfl, hk13⟩))
        all_goals
          have HB13 := Lib.hid hk13
          clear hk11 hk12 hk13 hr12 HWT HFD HSM HAL' hX0 hx4 hx5
          go_wp2
          go_roundw
          case rel => exact ⟨k + 1, by omega, by go_num, _, _, _, _, _, _, _, _, _, _, _, H9.out.later HB13.out, hN7, hK7, hl7, hO7⟩
          case measure => simp [intOf]; omega
      · obtain ⟨hb, hhb⟩ : ∃ b, hopeB (bestN ef) L O = b := ⟨_, rfl⟩
        obtain ⟨sn, hsn⟩ : ∃ s, wantN (bestN ef) L O = s := ⟨_, rfl⟩
        have HRW := Lib.hid (refWant_any Q q.length cq mask ef KA K.length kc WA wcc BA bc L O X1 HP1.out.wa.r HP1.out.ba.r (by omega) HP1.out.wl sn hb hhb hsn)
        have HPW := Lib.hid (And.intro hhb hsn)
        clear hhb hsn d1 d2 d3 d4
        obtain ⟨-, x0, x1, x2, x3, x4, x5, -⟩ := HP1.out.six
        go_wp2_with fail
        refine HRW.out.mono ?_
        rintro e W4 ⟨⟨WA', wc', rfl, hr1, hf1, hc1, hc2⟩, hb4⟩
        clear HRW x0 x1 x2 x3 x4 x5 d0
        go_upto_region 11 with (fail)
        have hb5 := below_new3 W4 (.cells #[.slice Q q.length cq, .int .u64 mask, .int .i64 ef, .slice KA K.length kc, .slice WA' (sortS (wantL (bestN ef) L O)).length wc', .slice BA (keepS (bestN ef) O).length bc] 46)
        have hm5 := SixC.new W4 (.slice Q q.length cq) (.int .u64 mask) (.int .i64 ef) (.slice KA K.length kc) (.slice WA' (sortS (wantL (bestN ef) L O)).length wc') (.slice BA (keepS (bestN ef) O).length bc) 46
        have hle := Nat.le_of_lt HDX.out
        have hb45 := (HBX.out.trans (hb4.mono hle)).trans (hb5.mono (Nat.le_trans hle hb4.size))
        obtain ⟨P5, hs5, hn5, h5⟩ := HP.out.adds (by rw [HDD.out]; exact hb45)
        have hr5 := (hr1.below hb5).more hb5.size
        have hbx : BX < X1.heap.size := HP1.out.six.lt
        have hw5 : SpIn P5 BX _ WA' (sortS (wantL (bestN ef) L O)) := HP1.out.wa.from hs5 (fun k h1 h2 => hn5 k (Nat.le_trans HBX.out.size h1) h2) hbx hr5 hf1
        have HW5 := Lib.hid hw5
        have HC5 := Lib.hid (And.intro hc1 hc2)
        have H5 := Lib.hid h5
        obtain ⟨-, x0, x1, x2, x3, x4, x5, f0, f1, f2, f3, f4, f5⟩ := h5.six
        obtain ⟨-, m0, m1, m2, m3, m4, m5, -⟩ := hm5
        clear hb5 hb45 hr5 hw5 hc1 hc2 h5 hr1 hf1 hb4 hs5 hn5
        generalize W4.alloc (.cells #[.slice Q q.length cq, .int .u64 mask, .int .i64 ef, .slice KA K.length kc, .slice WA' (sortS (wantL (bestN ef) L O)).length wc', .slice BA (keepS (bestN ef) O).length bc] 46) = W5 at *
        generalize W4.heap.size = D5 at *
        have h6 := H5.out.store (kc' := kc) (bc' := bc) H5.out.kn HW5.out HC5.out H5.out.ba
        have H6 := Lib.hid h6
        have HWP := Lib.hid (pWant_any h6.pr (by omega) sn hb HPW.out.1 HPW.out.2)
        clear h6 HW5 HC5
        go_wp2_with fail
        refine HWP.out.mono ?_
        rintro e W7 ⟨rfl, h7, hs7⟩
        have H7 := Lib.hid (H6.out.probe h7 hs7)
        clear h7 hs7 HWP H6 H5 x0 x1 x2 x3 x4 x5 f0 f1 f2 f3 f4 f5 m0 m1 m2 m3 m4 m5
        have hl7 : (wantL (bestN ef) L O).length ≤ k + 1 := by
          unfold wantL
          split
          · rw [List.length_tail, sortS_len]; omega
          · omega
        generalize wantL (bestN ef) L O = L7 at *
        have hK7 : K.length ≤ k + 1 := by omega
        have hO7 : O.length ≤ k + 1 := by omega
        have hN7 : nK ≤ k + 1 := by omega
        
        go_upto_region 19 with (fail)
        have H9 := Lib.hid (show PlayAt P5 w W7 BX bp bm bq bl Q' cq' Q q cq mask ef (bestN ef) nK K L7 O _ K _ _ (sortS L7) _ _ (keepS (bestN ef) O) _ from H7.out)
        have hx4 := H9.out.six.c4
        have hx5 := H9.out.six.c5
        have hxl := H9.out.six.lt
        have HWT : Hid (∀ W, Below W7.heap.size W7 W → Calls Try.prog 30 #[.pointer (some ⟨bp, 0, none⟩)] W fun e W' => e = .returned (.int .i64 (sortS L7).length) ∧ Below W7.heap.size W7 W') := Lib.hid fun W hW => by
          rw [sortS_len]
          exact (pWaits_any (H9.out.later hW).pr).mono fun _ _ ⟨he, hw⟩ => ⟨he, hw ▸ hW⟩
        have HFD : Hid (∀ W, Below W7.heap.size W7 W → Calls Try.prog 32 #[.pointer (some ⟨bp, 0, none⟩)] W fun e W' => ∃ A2 c2, e = .returned (.slice A2 (keepS (bestN ef) O).length c2) ∧ Below W7.heap.size W7 W' ∧ RdS W' W'.heap.size A2 (keepS (bestN ef) O)) := Lib.hid fun W hW =>
          (pFound_any (H9.out.later hW).pr (by omega)).mono fun _ _ ⟨A2, c2, he, hr, _, _, hb⟩ => ⟨A2, c2, he, hW.trans (hb.mono hW.size), hr⟩
        have HSM : Hid (∀ W A2 c2 BA2 bc2, BA2 = BA → Below W7.heap.size W7 W → RdS W W.heap.size A2 (keepS (bestN ef) O) → Calls Try.prog 31 #[.slice A2 (keepS (bestN ef) O).length c2, .slice BA2 (keepS (bestN ef) O).length bc2] W fun e W' => e = .returned (.bool true) ∧ Below W7.heap.size W7 W') := Lib.hid fun W A2 c2 BA2 bc2 he hW hr => by
          subst he
          exact (SameS_refl A2 BA2 (keepS (bestN ef) O) c2 bc2 W hr ((H9.out.later hW).ba.r) (by rw [keepS_len]; omega)).mono fun _ _ ⟨he, hd⟩ => ⟨he, hW.trans ((hd.below _).mono hW.size)⟩
        have HAL7 := Lib.hid (fun W (hb : Below W7.heap.size W7 W) => play_all (W := W) hxl hx4 hx5 hb)
        have hX0 := Below.refl W7.heap.size W7
        clear H7 HBX HP HP1 N HD HQ HZ HSL HDD HDX hxl
        go_region_held3 (fun W => Below W7.heap.size W7 W ∧ W.cell? ⟨BX, 4, none⟩ = some (.slice WA' (sortS L7).length wc') ∧ W.cell? ⟨BX, 5, none⟩ = some (.slice BA (keepS (bestN ef) O).length bc))
          (with_reducible first | assumption | exact HAL7.out _ (by assumption) | exact HAL7.out _ (below_dr (by assumption)) | exact HAL7.out _ (And.left (by assumption)) | exact HAL7.out _ (below_dr (And.left (by assumption))))
          (first
            | (go_at_call 30; (with_reducible refine Calls.mono (HWT.out _ (And.left (by assumption))) ?_); rintro e W11 ⟨rfl, hk11⟩)
            | (go_at_call 32; (with_reducible refine Calls.mono (HFD.out _ (And.left (by assumption))) ?_); rintro e W12 ⟨A12, c12, rfl, hk12, hr12⟩)
            | (go_at_call 31; (with_reducible refine Calls.mono (HSM.out W12 A12 c12 _ _ rfl hk12 hr12) ?_); rintro e W13 ⟨rfl, hk13⟩))
        all_goals
          have HB13 := Lib.hid hk13
          clear hk11 hk12 hk13 hr12 HWT HFD HSM HAL7 hX0 hx4 hx5
          go_wp2
          go_roundw
          case rel => exact ⟨k + 1, by omega, by go_num, _, _, _, _, _, _, _, _, _, _, _, H9.out.later HB13.out, hN7, hK7, hl7, hO7⟩
          case measure => simp [intOf]; omega
    · obtain rfl : k = ds.length := by omega
      have HBE := Lib.hid hbel
      clear hbel HPL
      go_wp2_with fail
      refine (prb_lives_any wr).mono ?_
      rintro e w5 ⟨rfl, hb5⟩
      have hfin := HBE.out.trans (hb5.mono HBE.out.size)
      clear hb5
      go_wp2
      go_ret
      exact ⟨rfl, hfin⟩

end Go.Proofs.Ytajmnhnepoomjaa

namespace Go.Proofs.Ytajmnhnepoomjaa
open Go.ChangeShapes Go.WideShapes Go.ChangeAt Go.RowKit Go.Joins Go.Deep

theorem open_vecS {H : Type} {enc : TypeId × Value → H} {P : Program} {w : World} {base : Nat} {t e : TypeId} {v : Value} {d : DataW H} {p : List MemPlace} (ht : P.underlying t = some (.slice e)) (he : P.underlying e = some (.int .i32)) (hc : P.cellsOf e = 1)
    (hv : Value.okWide P w .any base t v) (h : DataW.Trod enc P w 0 (fun _ => true) true t v d p) : ∃ (A : Option Addr) (zs : List Int) (c : Nat), v = .slice A zs.length c ∧ VecB w w.heap.size A zs ∧ (zs.length = 0 ∨ ∃ es sp, d = .slice es sp ∧ zs.length ≤ es.length) := by
  obtain ⟨a0, n, c, rfl⟩ := okWide_slice ht hv
  obtain ⟨fuel, hf⟩ := h
  obtain ⟨A, zs, c', e1, hV⟩ := vec_of_trod ht he hc hf
  refine ⟨A, zs, c', e1, hV, ?_⟩
  injection e1 with e1 e2 e3
  subst e1 e2 e3
  rcases open_ints ht he hc hf with ⟨hcs, _⟩ | ⟨a, len, cap, ys, hcs, _, hl, hm, hz, hx, _, _⟩
  · injection hcs with hcs _
    injection hcs with _ h2 _
    exact .inl h2
  · injection hcs with hcs _
    injection hcs with _ h2 _
    simp only [if_true] at hz
    injection hx with hx _
    exact .inr ⟨_, _, hx, by simp [lits, List.length_take]; omega⟩

end Go.Proofs.Ytajmnhnepoomjaa

namespace Go.Proofs.Ytajmnhnepoomjaa.lawProbePlays
open Go.ChangeShapes Go.WideShapes Go.ChangeAt Go.RowKit Go.Deep

theorem own : ownKnob Try.prog.godebug = none := by kernel_rfl
theorem laidOut : laidOutB Try.prog = true := by kernel_rfl
theorem bytes32 : Try.checked.prog.bytesOf 21 = 4 := by kernel_rfl
theorem sound : ∀ t ∈ Try.f5.params.toList, Try.prog.readableRec t = true ∧ t < Try.prog.types.size := by
  have h : (Try.f5.params.toList.all fun t => Try.prog.readableRec t && decide (t < Try.prog.types.size)) = true := by kernel_rfl
  intro t ht
  have := List.all_eq_true.1 h t ht
  simpa using this

set_option maxRecDepth 100000 in
theorem lifted (os : Os) (started : os.Started) (H : Type) (enc : TypeId × Value → H) :
    ReturnsInHanded {} Try.checked os 5 .any (Rows.probePlaysSpec.pre6 enc Try.prog Try.f5 Rows.probePlaysRow.domain false)
      (Rows.probePlaysSpec.post enc Try.prog Try.f5 false true false false) := by
  refine returnsInHanded_of_change_sized (C := Try.checked) own started (by kernel_rfl) Try.func5
    (ChangeSpec.witness6 (enc := enc) (C := Try.checked) false ⟨#[], #[.slice none 0 0, .int .u64 0, .int .i64 0, .slice none 0 0], []⟩ 8 (by kernel_rfl) (by kernel_rfl) (by kernel_rfl) (by kernel_rfl)) ?_
  intro W base args ds gs before hval0 hW _ hS _
  have hval : ∀ (j : Nat) t v, Try.f5.params[j]? = some t → args[j]? = some v → Value.okWide Try.prog W .any base t v := hval0
  have hW' := hW
  obtain ⟨p, q, hA0, hV, hpq, _, _⟩ := hW
  have hA : DataW.TrodAll enc Try.prog W 0 (fun _ => true) true Try.f5.params.toList args.toList ds p := hA0
  rw [Try.params5] at hA hval
  obtain ⟨rfl, _⟩ := trodVars_none hV
  obtain ⟨v0, vs0, d0, ds0, p0, q0, hargs, rfl, _, h0, r0⟩ := trodAll_cons hA
  obtain ⟨v1, vs1, d1, ds1, p1, q1, rfl, rfl, _, h1, r1⟩ := trodAll_cons r0
  obtain ⟨v2, vs2, d2, ds2, p2, q2, rfl, rfl, _, h2, r2⟩ := trodAll_cons r1
  obtain ⟨v3, vs3, d3, ds3, p3, q3, rfl, rfl, _, h3, r3⟩ := trodAll_cons r2
  obtain ⟨rfl, rfl, _⟩ := trodAll_nil r3
  obtain rfl : args = #[v0, v1, v2, v3] := by cases args; simp_all
  obtain ⟨A0, zs0, c0, rfl, hV0, hz0⟩ := open_vecS Try.underlying23 Try.underlying21 (by kernel_rfl) (hval 0 23 v0 rfl rfl) h0
  have hq0 : zs0.length * 4 ≤ 140737488351232 := by
    rcases hz0 with h | ⟨es, sp, hd, hl⟩
    · rw [h]; decide
    · have hs := sized_slice hS (j := 0) (t := 23) (elems := es) (spare := sp) rfl (by rw [hd]; rfl) Try.underlying23
      rw [bytes32] at hs
      unfold reachBytes at hs
      omega
  obtain ⟨x1, rfl, _, _, _⟩ := open_int Try.underlying24 (hval 1 24 v1 rfl rfl) h1
  obtain ⟨x2, rfl, _, _, w2⟩ := open_int Try.underlying3 (hval 2 3 v2 rfl rfl) h2
  obtain ⟨A3, zs3, c3, rfl, hR3, hk3, hm3, hn3⟩ := open_asks Try.underlying40 Try.underlying48 (by kernel_rfl) rfl (by kernel_rfl) rfl (by kernel_rfl) rfl (by kernel_rfl) Try.underlying4 Try.underlying3 Try.underlying36 (by kernel_rfl) Try.underlying24 Try.underlying23 Try.underlying24 Try.underlying21 (by kernel_rfl) (hval 3 40 v3 rfl rfl) h3
  refine (ProbePlays_walk A0 zs0 c0 x1 x2 A3 zs3 c3 W hV0 hq0 hR3 (Nat.le_trans hk3 hm3)).mono fun e W' ⟨he, hb⟩ => ?_
  subst he
  exact ⟨_, rfl, law_post (tb := 4) laidOut sound rfl Try.underlying4 rfl hW' rfl rfl rfl hb⟩

theorem proved : Rows.ProbePlaysSaid :=
  OpenClaim.holds_of_wide 5 Try.f5 rfl rfl rfl rfl rfl rfl rfl ⟨rfl, rfl, rfl, rfl, rfl⟩ rfl rfl rfl rfl rfl (by kernel_rfl) Try.func5 (by kernel_rfl)
    (of_decide_eq_true (by kernel_rfl)) (by unfold Func.isWrapper; first | (rw [if_pos (by decide +kernel)]; kernel_rfl) | (rw [if_neg (by decide +kernel)]; exact ⟨rfl, rfl⟩))
    (fun os started H enc _ => lifted os started H enc)

end Go.Proofs.Ytajmnhnepoomjaa.lawProbePlays
