/- slices.SortFunc and slices.Compact over hits. -/
import Derived.Test.YtamgmbjcobomhaaRankHits
import Derived.Lib.SliceRun
import Derived.IntWalk
namespace Go.Proofs.Ytamgmbjcobomhaa
open Go.RowKit Go.Shelf Go.Sort Go.Lib

def leH (x y : HitT) : Bool := !(ltOf cmpH) y x
def sortH (l : List HitT) : List HitT := l.mergeSort leH
theorem sortH_len (l : List HitT) : (sortH l).length = l.length := List.length_mergeSort l

theorem cmpLaysH (blk off size : Nat) (w : World) : CmpLays Try.prog 68 #[] encH 2 cmpH blk off size w :=
  fun _ _ _ _ x y => (compareHits_any x y _).mono fun _ _ ⟨he, hg⟩ => ⟨he, hg⟩
theorem SortHits_any (blk off cap : Nat) (d : Array HitT) (w : World) (hH : HoldsK encH 2 w blk off d) (hblk : blk < w.heap.size) (hsz : d.size < 4611686018427387904) :
    Calls Try.prog 67 #[.slice (some ⟨blk, off, none⟩) d.size cap, .func (.func 68) #[] #[]] w fun e w' =>
      e = .returned (.tuple #[]) ∧ ∃ n os, w' = sortWorldK encH 2 w blk off n (sortH d.toList).toArray os :=
  AnyQ.slices_SortFunc_total Try.sortHit 2 Try.isAgg34 Try.sizeOf34 encH (fun _ => rfl) (fun x v hv => by simp [encH] at hv; rcases hv with rfl | rfl <;> rfl) cmpH swoH 68 #[] blk off cap d w
    (enters_of Try.func68 (by kernel_rfl) rfl) (cmpLaysH blk off d.size w) hH hblk hsz oneH
theorem SortHits_none (p : Option Addr) (cap : Nat) (fv : Value) (w : World) :
    Calls Try.prog 67 #[.slice p 0 cap, fv] w fun e w' => e = .returned (.tuple #[]) ∧ w' = w :=
  AnyF.slices_SortFunc_none { Try.sortHit with } p cap fv w

theorem holds_ownH {w : World} {base g cap n : Nat} {zs : List HitT} (h : w.ownsRow base 34 2 (.slice (some ⟨g, 0, none⟩) n cap) n (cellsH zs)) (hn : zs.length = n) : HoldsK encH 2 w g 0 zs.toArray := by
  intro j hj
  have hsz : (flatK encH 2 zs.toArray).size = zs.length * 2 := by simp
  rw [hsz] at hj
  have hk : j / 2 < zs.length := by omega
  have hc : j % 2 < 2 := by omega
  have e : j = j / 2 * 2 + j % 2 := by omega
  have hx := cellsH_get zs (j / 2) (j % 2) hk hc
  rw [← e] at hx
  rcases h.2 with ⟨hv, _⟩ | ⟨g', cap', cur, hv, _, hb, _⟩
  · cases hv
  · injection hv with h1 h2 h3
    injection h1 with h1
    injection h1 with h1
    subst h1
    refine ⟨?_, ?_⟩
    · rw [Nat.zero_add, h.cellAt j (by omega), hx, get_flatK _ _ _ _ (by simpa using hj)]
      simp [hk]
    · simp [World.frozen?, hb]
theorem sortWorldH_below {B blk off n : Nat} {w : World} {d : Array HitT} {os : Array Obj} (hB : B ≤ blk) (hblk : blk < w.heap.size) : Below B w (sortWorldK encH 2 w blk off n d os) := by
  refine ⟨rfl, rfl, rfl, ?_, fun j hj => ?_⟩
  · show w.heap.size ≤ (w.heap.modify blk _ ++ os).size
    rw [Array.size_append, Array.size_modify]
    omega
  · show (w.heap.modify blk _ ++ os)[j]? = _
    rw [Array.getElem?_append_left (by rw [Array.size_modify]; omega), Array.getElem?_modify, if_neg (by omega)]

/-- The block g holds these hits, two cells each. -/
def M2 (w : World) (g : Nat) (d : Array HitT) : Prop := ∀ j, j < d.size →
  (w.cell? ⟨g, j * 2, none⟩ = some (.int .u64 d[j]!.1) ∧ w.cell? ⟨g, j * 2 + 1, none⟩ = some (.int .u64 d[j]!.2)) ∧ w.frozen? ⟨g, j * 2, none⟩ = false ∧ w.frozen? ⟨g, j * 2 + 1, none⟩ = false
theorem M2.of_holds {w : World} {g : Nat} {d : Array HitT} (h : HoldsK encH 2 w g 0 d) : M2 w g d := by
  intro j hj
  have h0 := h.cell hj (show 0 < 2 by decide)
  have h1 := h.cell hj (show 1 < 2 by decide)
  rw [Nat.zero_add] at h0 h1
  exact ⟨⟨h0.1, h1.1⟩, h0.2, h1.2⟩
theorem M2.drawn {w w' : World} {g : Nat} {d : Array HitT} (h : M2 w g d) (k : Drawn w w') : M2 w' g d := by
  obtain ⟨m, rfl⟩ := k
  exact h
theorem M2.store {w : World} {g k : Nat} {d : Array HitT} (h : M2 w g d) (hk : k < d.size) (u : HitT) : M2 ((w.setCell ⟨g, k * 2, none⟩ (.int .u64 u.1)).setCell ⟨g, k * 2 + 1, none⟩ (.int .u64 u.2)) g (d.setIfInBounds k u) := by
  intro j hj
  have hj' : j < d.size := by simpa using hj
  obtain ⟨⟨h0, h1⟩, h2, h3⟩ := h j hj'
  refine ⟨?_, by simpa using h2, by simpa using h3⟩
  by_cases e : j = k
  · subst e
    rw [getElem!_set_same d j u hj']
    refine ⟨(World.cell?_setCell_other _ _ _ _ (by simp)).trans (World.cell?_setCell_same _ _ _ h0), World.cell?_setCell_same _ _ _ ((World.cell?_setCell_other _ _ _ _ (by simp)).trans h1)⟩
  · rw [getElem!_set_other d k j u e]
    exact ⟨(World.cell?_setCell_other _ _ _ _ (by simp only [ne_eq, Addr.mk.injEq]; omega)).trans ((World.cell?_setCell_other _ _ _ _ (by simp only [ne_eq, Addr.mk.injEq]; omega)).trans h0), (World.cell?_setCell_other _ _ _ _ (by simp only [ne_eq, Addr.mk.injEq]; omega)).trans ((World.cell?_setCell_other _ _ _ _ (by simp only [ne_eq, Addr.mk.injEq]; omega)).trans h1)⟩

theorem below_setCells {B b : Nat} (hB : B ≤ b) : ∀ (vs : List Value) (o : Nat) (a w : World), Below B a w → Below B a (w.setCells b o vs)
  | [], _, _, _, h => h
  | v :: vs, o, a, _, h => below_setCells hB vs (o + 1) a _ (h.setCell (p := ⟨b, o, none⟩) hB v)

theorem run_clear_hits (w : World) (ty : TypeId) (g o n c : Nat) (hn : 0 < n) (hc : ∀ j, j < n * 2 → (w.cell? ⟨g, o + j, none⟩).isSome = true) (hf : ∀ j, j < n * 2 → w.frozen? ⟨g, o + j, none⟩ = false) :
    (Builtin.clear_ #[23] ty #[.slice (some ⟨g, o, none⟩) n c]).run Try.prog w = .ok (.tuple #[]) (w.setCells g o (Builtin.zeroCells #[.int .u64 0, .int .u64 0] n).toList) := by
  have hl : (Builtin.zeroCells #[.int .u64 0, .int .u64 0] n).toList.length = n * 2 := by simp [Builtin.zeroCells]
  have h1 : ∀ v ∈ (Builtin.zeroCells #[.int .u64 0, .int .u64 0] n).toList, v.oneCell' = true := by
    intro v hv
    simp only [Builtin.zeroCells, Array.toList_map, List.mem_map] at hv
    obtain ⟨i, _, rfl⟩ := hv
    rcases (show i % 2 = 0 ∨ i % 2 = 1 by omega) with e | e
    · simp [e]; rfl
    · simp [e]; rfl
  have hst := run_storeCells_cells (P := Try.prog) g o (Builtin.zeroCells #[.int .u64 0, .int .u64 0] n).toList 0 w (by rw [hl]; simpa using hc) (by rw [hl]; simpa using hf) h1
  simp only [Nat.add_zero] at hst
  obtain ⟨m, rfl⟩ : ∃ m, n = m + 1 := ⟨n - 1, by omega⟩
  simp [Builtin.clear_, run_underlying Try.underlying23, Try.zeroValue34, Value.cells, hst]

/-- Two hits that are one, or not. -/
theorem hit_ways (x y : HitT) : x = y ∨ (x ≠ y ∧ ¬ x.1 = y.1) ∨ (x ≠ y ∧ x.1 = y.1 ∧ ¬ x.2 = y.2) := by
  obtain ⟨a, b⟩ := x
  obtain ⟨c, d⟩ := y
  by_cases h1 : a = c
  · by_cases h2 : b = d
    · exact .inl (by rw [h1, h2])
    · exact .inr (.inr ⟨fun e => h2 (by injection e), h1, h2⟩)
  · exact .inr (.inl ⟨fun e => h1 (by injection e), h1⟩)

theorem keeps_more {d : Array HitT} {k : Nat} (h : ∀ j, j < k + 1 → keeps d j = true) (hk : keeps d (k + 1) = true) : ∀ j, j < k + 1 + 1 → keeps d j = true := fun j hj => by
  by_cases e : j = k + 1
  · subst e; exact hk
  · exact h j (by omega)

set_option maxRecDepth 100000 in
set_option maxHeartbeats 8000000 in
theorem Compact_any (g cap : Nat) (d : Array HitT) (w : World) (hH : M2 w g d) (hg : g < w.heap.size) (hsz : d.size ≤ 1000000) (hcap : d.size ≤ cap) (hcm : cap ≤ 9223372036854775807) :
    Calls Try.prog 69 #[.slice (some ⟨g, 0, none⟩) d.size cap] w fun e w' =>
      e = .returned (.slice (some ⟨g, 0, none⟩) (compactUpTo d d.size).length cap) ∧ RdH w' w'.heap.size (some ⟨g, 0, none⟩) (compactUpTo d d.size) ∧ Below g w w' := by
  have HH := Lib.hid hH
  clear hH
  have HSame : Hid (∀ W, Drawn w W → (∀ j, j < d.size → keeps d j = true) → (compactUpTo d d.size).length = d.size ∧ RdH W W.heap.size (some ⟨g, 0, none⟩) (compactUpTo d d.size)) := by
    intro W hW hall
    have e : compactUpTo d d.size = d.toList := by rw [compactUpTo_all d _ hall, range_map_get]
    rw [e]
    refine ⟨by simp, fun k z hz => ⟨g, 0, rfl, by rw [hW.size]; exact hg, ?_⟩⟩
    obtain ⟨hk, rfl⟩ := List.getElem?_eq_some_iff.1 hz
    have hk' : k < d.size := by simpa using hk
    have h := (HH.out k hk').1
    rw [getElem!_pos d k hk'] at h
    rw [hW.cell, hW.cell, Nat.zero_add]
    simpa using h
  by_cases h2 : d.size < 2
  · go_enter Try.func69, Try.ntmps69
    go_wp2
    go_ret
    obtain ⟨e1, e2⟩ := HSame.out w Drawn.refl (fun j hj => keeps_lt_one d j (by omega))
    exact ⟨by rw [e1]; rfl, e2, Below.refl _ _⟩
  · go_enter Try.func69, Try.ntmps69
    go_wp2
    go_loopw [3] (fun s3 wr => ∃ k : Nat, k + 1 ≤ d.size ∧ s3 = .int .i64 (k + 1 : Nat) ∧ Drawn w wr ∧ Hid (∀ j, j < k + 1 → keeps d j = true)) (fun s3 _ => d.size - (intOf s3).toNat)
    case atStart => exact ⟨0, by omega, rfl, Drawn.refl, keeps_lt_one d⟩
    case round =>
      obtain ⟨k, hk, rfl, hdr, HK⟩ := hrel
      by_cases hlt : k + 1 < d.size
      · obtain ⟨⟨a0, a1⟩, _⟩ := HH.out (k + 1) hlt
        obtain ⟨⟨p0, p1⟩, _⟩ := HH.out k (by omega)
        rw [← hdr.cell] at a0 a1 p0 p1
        have hkl : ((k + 1 : Nat) : Int) < (d.size : Int) := by omega
        have hkl0 : (k : Int) < (d.size : Int) := by omega
        have hk0 : (0 : Int) ≤ (k : Int) := by omega
        have hk1 : (0 : Int) ≤ ((k + 1 : Nat) : Int) := by omega
        have e2 : ((k : Int)).toNat = k := Int.toNat_natCast k
        have e3 : (((k + 1 : Nat) : Int)).toNat = k + 1 := Int.toNat_natCast _
        have e1 : IntKind.i64.wrap (((k + 1 : Nat) : Int) - 1) = (k : Int) := by
          rw [IntWalk.i64_in _ (by omega)]
          omega
        have HE : Hid (d[k + 1]! = d[k]! → keeps d (k + 1) = false) := fun h => keeps_neg (by omega) h
        have HN : Hid (d[k + 1]! ≠ d[k]! → keeps d (k + 1) = true) := fun h => keeps_pos h
        have hways := hit_ways d[k + 1]! d[k]!
        generalize d[k + 1]! = x at *
        generalize d[k]! = y at *
        rcases hways with hxy | ⟨hxy, hne⟩ | ⟨hxy, heq, hne⟩
        · have HS0 := Lib.hid (CompInv.start HK.out (HE.out hxy))
          subst hxy
          clear HE HN
          have hc1 : ((k + 1 : Nat) : Int) < (cap : Int) := by omega
          have hc2 : ¬ cap = k + 1 := by omega
          go_wp2
          go_quiet (fail)
          go_wp2
          clear a0 a1 p0 p1
          go_loopw [3, 5] (fun s3 s5 w' => ∃ (kk m : Nat) (dk : Array HitT), s3 = .int .i64 (kk : Nat) ∧ s5 = .int .i64 (m + 1 : Nat) ∧ k + 1 + (m + 1) ≤ d.size ∧ Hid (CompInv d (k + 1 + (m + 1)) kk dk) ∧ Hid (M2 w' g dk) ∧ Below g w w')
            (fun _ s5 _ => d.size - (intOf s5).toNat)
          case atStart => exact ⟨k + 1, 0, d, rfl, rfl, by omega, HS0.out, HH.out.drawn (hdr.step _), (hdr.step _).below _⟩
          case round =>
            clear e1 e2 e3 hkl hkl0 hk0 hk1
            obtain ⟨kk, m, dk, rfl, rfl, hm, HI, HM, hbel⟩ := hrel
            have hkk := HI.out.lt
            have hds := HI.out.size
            by_cases hlt2 : k + 1 + (m + 1) < d.size
            · obtain ⟨⟨a0, a1⟩, _⟩ := HM.out (k + 1 + (m + 1)) (by omega)
              obtain ⟨⟨p0, p1⟩, _⟩ := HM.out (k + 1 + m) (by omega)
              obtain ⟨⟨q0, q1⟩, r0, r1⟩ := HM.out kk (by omega)
              rw [HI.out.high _ (by omega), show (k + 1 + (m + 1)) * 2 = (k + 1) * 2 + (m + 1) * 2 by omega] at a0 a1
              rw [HI.out.high _ (by omega), show (k + 1 + m) * 2 = (k + 1) * 2 + m * 2 by omega] at p0 p1
              have hkl : ((m + 1 : Nat) : Int) < ((d.size - (k + 1) : Nat) : Int) := by omega
              have hkl0 : (m : Int) < ((d.size - (k + 1) : Nat) : Int) := by omega
              have hkk1 : (kk : Int) < (d.size : Int) := by omega
              have hk0 : (0 : Int) ≤ (m : Int) := by omega
              have hk1 : (0 : Int) ≤ ((m + 1 : Nat) : Int) := by omega
              have e2 : ((m : Int)).toNat = m := Int.toNat_natCast m
              have e3 : (((m + 1 : Nat) : Int)).toNat = m + 1 := Int.toNat_natCast _
              have e1 : IntKind.i64.wrap (((m + 1 : Nat) : Int) - 1) = (m : Int) := by
                rw [IntWalk.i64_in _ (by omega)]
                omega
              have HE2 : Hid (d[k + 1 + (m + 1)]! = d[k + 1 + m]! → CompInv d (k + 1 + (m + 2)) kk dk) := fun h => HI.out.skip (keeps_neg (by omega) h)
              have HN2 : Hid (d[k + 1 + (m + 1)]! ≠ d[k + 1 + m]! → CompInv d (k + 1 + (m + 2)) (kk + 1) (dk.setIfInBounds kk d[k + 1 + (m + 1)]!)) := fun h => HI.out.keep hlt2 (keeps_pos h)
              have hways2 := hit_ways d[k + 1 + (m + 1)]! d[k + 1 + m]!
              generalize d[k + 1 + (m + 1)]! = x2 at *
              generalize d[k + 1 + m]! = y2 at *
              generalize dk[kk]! = o2 at *
              rcases hways2 with hxy2 | ⟨hxy2, hne2⟩ | ⟨hxy2, heq2, hne2⟩
              · have HF2 := Lib.hid (HE2.out hxy2)
                subst hxy2
                clear HE2 HN2
                go_wp2
                go_quiet (fail)
                go_wp2
                go_roundw
                case rel => exact ⟨kk, m + 1, dk, rfl, by go_num, by omega, HF2.out, HM.out.drawn (Drawn.refl.step _), hbel.trans (below_draws _ _ _)⟩
                case measure => simp [intOf]; omega
              · have HF2 := Lib.hid (HN2.out hxy2)
                clear HE2 HN2 hxy2
                go_wp2
                go_quiet (fail)
                go_wp2
                go_roundw
                case rel =>
                  exact ⟨kk + 1, m + 1, dk.setIfInBounds kk x2, by go_num, by go_num, by omega, HF2.out, (HM.out.drawn (Drawn.refl.step _)).store (by omega) x2,
                    ((hbel.trans (below_draws _ _ _)).setCell (p := ⟨g, kk * 2, none⟩) (Nat.le_refl _) _).setCell (p := ⟨g, kk * 2 + 1, none⟩) (Nat.le_refl _) _⟩
                case measure => simp [intOf]; omega
              · have HF2 := Lib.hid (HN2.out hxy2)
                obtain ⟨xa, xb⟩ := x2
                obtain ⟨ya, yb⟩ := y2
                simp only at heq2 hne2 a0 a1 p0 p1
                subst heq2
                clear HE2 HN2 hxy2
                go_wp2
                go_quiet (fail)
                go_wp2
                go_roundw
                case rel =>
                  exact ⟨kk + 1, m + 1, dk.setIfInBounds kk (xa, xb), by go_num, by go_num, by omega, HF2.out, (HM.out.drawn (Drawn.refl.step _)).store (by omega) (xa, xb),
                    ((hbel.trans (below_draws _ _ _)).setCell (p := ⟨g, kk * 2, none⟩) (Nat.le_refl _) _).setCell (p := ⟨g, kk * 2 + 1, none⟩) (Nat.le_refl _) _⟩
                case measure => simp [intOf]; omega
            · have hend : k + 1 + (m + 1) = d.size := by omega
              have HI2 : Hid (CompInv d d.size kk dk) := by rw [Hid, ← hend]; exact HI.out
              have hkd : kk < d.size := by omega
              have hcl : ∀ ty, (Builtin.clear_ #[23] ty #[.slice (some ⟨g, kk * 2, none⟩) (d.size - kk) (cap - kk)]).run Try.prog wr = .ok (.tuple #[]) (wr.setCells g (kk * 2) (Builtin.zeroCells #[.int .u64 0, .int .u64 0] (d.size - kk)).toList) := fun ty =>
                run_clear_hits wr ty g (kk * 2) (d.size - kk) (cap - kk) (by omega)
                  (fun j hj => by
                    obtain ⟨⟨z0, z1⟩, _⟩ := HM.out (kk + j / 2) (by omega)
                    rcases (show j % 2 = 0 ∨ j % 2 = 1 by omega) with e | e
                    · rw [show kk * 2 + j = (kk + j / 2) * 2 by omega, z0]; rfl
                    · rw [show kk * 2 + j = (kk + j / 2) * 2 + 1 by omega, z1]; rfl)
                  (fun j hj => by
                    obtain ⟨_, z0, z1⟩ := HM.out (kk + j / 2) (by omega)
                    rcases (show j % 2 = 0 ∨ j % 2 = 1 by omega) with e | e
                    · rw [show kk * 2 + j = (kk + j / 2) * 2 by omega, z0]
                    · rw [show kk * 2 + j = (kk + j / 2) * 2 + 1 by omega, z1])
              have hkc : (kk : Int) < (cap : Int) := by omega
              have hkc2 : ¬ cap = kk := by omega
              have hkk1 : (kk : Int) < (d.size : Int) := by omega
              generalize (Builtin.zeroCells #[.int .u64 0, .int .u64 0] (d.size - kk)).toList = vs at hcl
              go_wp2
              go_ret
              have hB : Below g w (wr.setCells g (kk * 2) vs) := below_setCells (Nat.le_refl _) vs _ _ _ hbel
              refine ⟨by rw [HI2.out.len]; rfl, fun j z hz => ?_, hB⟩
              have hjk : j < kk := by
                have := (List.getElem?_eq_some_iff.1 hz).1
                rw [HI2.out.len] at this
                exact this
              rw [HI2.out.low j hjk] at hz
              injection hz with hz
              subst hz
              obtain ⟨⟨z0, z1⟩, _⟩ := HM.out j (by omega)
              refine ⟨g, 0, rfl, Nat.lt_of_lt_of_le hg hB.size, ?_, ?_⟩
              · rw [Nat.zero_add, World.cell?_setCells_out g vs (kk * 2) wr ⟨g, j * 2, none⟩ (fun _ _ => .inl (by show j * 2 < kk * 2; omega))]
                exact z0
              · rw [Nat.zero_add, World.cell?_setCells_out g vs (kk * 2) wr ⟨g, j * 2 + 1, none⟩ (fun _ _ => .inl (by show j * 2 + 1 < kk * 2; omega))]
                exact z1
        · have HF := Lib.hid (HN.out hxy)
          clear HE HN hxy
          go_wp2
          go_quiet (fail)
          go_wp2
          go_roundw
          case rel => exact ⟨k + 1, by omega, by go_num, hdr.step _, keeps_more HK.out HF.out⟩
          case measure => simp [intOf]; omega
        · have HF := Lib.hid (HN.out hxy)
          obtain ⟨xa, xb⟩ := x
          obtain ⟨ya, yb⟩ := y
          simp only at heq hne a0 a1 p0 p1
          subst heq
          clear HE HN hxy
          go_wp2
          go_quiet (fail)
          go_wp2
          go_roundw
          case rel => exact ⟨k + 1, by omega, by go_num, hdr.step _, keeps_more HK.out HF.out⟩
          case measure => simp [intOf]; omega
      · have hkd : k + 1 = d.size := by omega
        have HF := Lib.hid (HSame.out wr hdr (fun j hj => HK.out j (by omega)))
        go_wp2
        go_ret
        exact ⟨by rw [HF.out.1]; rfl, HF.out.2, hdr.below _⟩

end Go.Proofs.Ytamgmbjcobomhaa
