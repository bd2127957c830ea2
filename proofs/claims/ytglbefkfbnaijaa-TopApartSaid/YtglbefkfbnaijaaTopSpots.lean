/- The spots of items around a vector, and lists that are one, as the laws of gangliontop have them. -/
import Derived.Test.YtglbefkfbnaijaaOwnKept
import Derived.Test.YtglbefkfbnaijaaEdSpot
import Derived.Test.YtglbefkfbnaijaaRefPush
namespace Go.Proofs.Ytglbefkfbnaijaa
open Go.RowKit Go.Shelf Go.Sort

/-- Items' spots around a vector, by their places. -/
def spotsL (q : List Int) (its : List ItT) : List SpotT := (List.range its.length).map fun k : Nat => spotOf q (k : Int) (itAt its k)
theorem spotsL_len (q : List Int) (its : List ItT) : (spotsL q its).length = its.length := by simp [spotsL]
theorem spotsL_take (q : List Int) (its : List ItT) (k : Nat) (h : k < its.length) : (spotsL q its).take (k + 1) = (spotsL q its).take k ++ [spotOf q (k : Int) (itAt its k)] := by
  rw [List.take_succ_eq_append_getElem (by rw [spotsL_len]; exact h)]
  congr 1
  simp [spotsL]

set_option maxHeartbeats 1000000 in
theorem alike_refl (A B : Option Addr) (zs : List SpotT) (c d : Nat) (w : World) (hA : RdS w w.heap.size A zs) (hB : RdS w w.heap.size B zs) (hl : zs.length ≤ 9223372036854775807) :
    Calls Try.prog 69 #[.slice A zs.length c, .slice B zs.length d] w fun e w' => e = .returned (.bool true) ∧ Drawn w w' := by
  go_enter Try.func69, Try.ntmps69
  go_wp2
  go_loopw [13] (fun i wr => ∃ k : Nat, k ≤ zs.length ∧ i = .int .i64 k ∧ Drawn w wr) (fun i _ => zs.length - (intOf i).toNat)
  case atStart => exact ⟨0, Nat.zero_le _, rfl, Drawn.refl⟩
  case round =>
    obtain ⟨k, hk, rfl, hdr⟩ := hrel
    by_cases hlt : k < zs.length
    · obtain ⟨b, off, rfl, hb, h0, h1, h2⟩ := hA k _ (List.getElem?_eq_getElem hlt)
      obtain ⟨b', off', rfl, hb', k0, k1, k2⟩ := hB k _ (List.getElem?_eq_getElem hlt)
      rw [← hdr.cell] at h0 h1 h2 k0 k1 k2
      generalize zs[k] = z at *
      have hkl : (k : Int) < (zs.length : Int) := by omega
      have hk0 : (0 : Int) ≤ (k : Int) := by omega
      go_wp2
      go_quiet (fail)
      go_wp2
      go_roundw
      case rel => exact ⟨k + 1, by omega, by go_num, hdr.step _⟩
      case measure => simp [intOf]; omega
    · go_wp2
      go_ret
      exact ⟨rfl, hdr⟩

/-- What a round keeps: the item in its block. -/
theorem spot_all {X W : World} {b : Nat} {id : Int} {ZA : Option Addr} {n c : Nat} (hlt : b < X.heap.size) (h0 : X.cell? ⟨b, 0, none⟩ = some (.int .u64 id)) (h1 : X.cell? ⟨b, 1, none⟩ = some (.slice ZA n c)) (hb : Below X.heap.size X W) :
    Below X.heap.size X W ∧ W.cell? ⟨b, 0, none⟩ = some (.int .u64 id) ∧ W.cell? ⟨b, 1, none⟩ = some (.slice ZA n c) :=
  ⟨hb, (hb.cell (p := ⟨b, 0, none⟩) hlt).trans h0, (hb.cell (p := ⟨b, 1, none⟩) hlt).trans h1⟩

set_option maxRecDepth 100000 in
set_option maxHeartbeats 4000000 in
theorem spots_any (Q : Option Addr) (q : List Int) (cq : Nat) (A : Option Addr) (its : List ItT) (ca : Nat) (w : World) (hQ : VecB w w.heap.size Q q) (hI : ItemsAt w w.heap.size A its) (hl : its.length ≤ 1000) :
    Calls Try.prog 68 #[.slice Q q.length cq, .slice A its.length ca] w (SpotsNew (spotsL q its) w) := by
  have mixed : Try.prog.follows .mixedOrders = true := by kernel_rfl
  obtain ⟨i0, hi0, hz0, hz1, hz2⟩ := info_parts info_spot
  have HQ := Lib.hid hQ
  have HI := Lib.hid hI
  have HL := Lib.hid hl
  have HSL := Lib.hid (spotsL_len q its)
  clear hQ hI hl
  go_enter Try.func68, Try.ntmps68
  go_wp2
  go_loopw [10, 5] (fun i v wr => ∃ k : Nat, k ≤ its.length ∧ i = .int .i64 k ∧ wr.ownsRow w.heap.size 33 3 v k (cellsS ((spotsL q its).take k)) ∧ Below w.heap.size w wr) (fun i _ _ => its.length - (intOf i).toNat)
  case atStart => exact ⟨0, Nat.zero_le _, rfl, World.ownsRow_nil _ _ _ _, Below.refl _ _⟩
  case round =>
    obtain ⟨k, hk, rfl, hown, hbel⟩ := hrel
    have HBL := Lib.hid hbel
    by_cases hlt : k < its.length
    · obtain ⟨⟨b, off, rfl, hb, h0, h1, h2⟩, hZ⟩ := (HI.out.below hbel) k _ (itAt_lt hlt)
      have HT : Hid (cellsS ((spotsL q its).take (k + 1)) = cellsS ((spotsL q its).take k) ++ encS (spotOf q (k : Int) (itAt its k))) := by rw [Hid, spotsL_take q its k hlt, cellsS_snoc]
      obtain ⟨z, hz⟩ : ∃ z, itAt its k = z := ⟨_, rfl⟩
      rw [hz] at h0 h1 h2 hZ HT
      obtain ⟨id, ZA, zv, zc, tg⟩ := z
      simp only at h0 h1 h2 hZ
      have hkl : (k : Int) < (its.length : Int) := by omega
      have hk0 : (0 : Int) ≤ (k : Int) := by omega
      have hkn : ((k : Int)).toNat = k := Int.toNat_natCast k
      have hbX := below_new3 wr (.cells #[.int .u64 id, .slice ZA zv.length zc, .int .u64 tg] 57)
      have HVQ := Lib.hid ((HQ.out.below HBL.out).more HBL.out.size)
      have HVZ := Lib.hid (hZ.more HBL.out.size)
      have HOX := Lib.hid (hown.alloc (.cells #[.int .u64 id, .slice ZA zv.length zc, .int .u64 tg] 57))
      have HBX := Lib.hid (HBL.out.trans (hbX.mono HBL.out.size))
      have HVQ2 := Lib.hid ((HVQ.out.below hbX).more hbX.size)
      have HVZ2 := Lib.hid ((HVZ.out.below hbX).more hbX.size)
      have b0 : (wr.alloc (.cells #[.int .u64 id, .slice ZA zv.length zc, .int .u64 tg] 57)).cell? ⟨wr.heap.size, 0, none⟩ = some (.int .u64 id) := by go_cell
      have b1 : (wr.alloc (.cells #[.int .u64 id, .slice ZA zv.length zc, .int .u64 tg] 57)).cell? ⟨wr.heap.size, 1, none⟩ = some (.slice ZA zv.length zc) := by go_cell
      have hsz : wr.heap.size < (wr.alloc (.cells #[.int .u64 id, .slice ZA zv.length zc, .int .u64 tg] 57)).heap.size := by simp
      have HOWD : Hid (∀ p, (u5 : Value).ownBlock = some p → p < wr.heap.size) := Lib.hid fun p e => (hown.lt p e).2
      clear hz hown hbel hZ hbX HVQ HVZ hb
      go_upto_region 5 with (fail)
      generalize wr.alloc (.cells #[.int .u64 id, .slice ZA zv.length zc, .int .u64 tg] 57) = X at *
      generalize wr.heap.size = D at *
      clear h0 h1 h2
      have HALL := Lib.hid (fun W hb => spot_all (W := W) hsz b0 b1 hb)
      have hX0 := Below.refl X.heap.size X
      have l4 : k + 1 ≤ maxLen := by have := HL.out; unfold maxLen; omega
      have l5 : (k + 1) * 24 ≤ 140737488355328 := by have := HL.out; omega
      have HDI : Hid (distI q ⟨id, ZA, zv, zc, tg⟩ = satN (distN q zv (max q.length zv.length))) := rfl
      have HDX : Hid (∀ ca cb, Calls Try.prog 38 #[.slice Q q.length ca, .slice ZA zv.length cb] X.drew fun e w' => e = .returned (.int .u64 (satN (distN q zv (max q.length zv.length)))) ∧ Below X.heap.size X w') := Lib.hid fun ca cb => (VecB.dist (HVQ2.out.below (below_draws X 1 _)) (HVZ2.out.below (below_draws X 1 _)) (Nat.le_refl _) ca cb).mono fun _ _ ⟨he, hb⟩ => ⟨he, (below_draws X 1 _).trans hb⟩
      have HDY : Hid (∀ ca cb, Calls Try.prog 38 #[.slice Q q.length ca, .slice ZA zv.length cb] X fun e w' => e = .returned (.int .u64 (satN (distN q zv (max q.length zv.length)))) ∧ Below X.heap.size X w') := Lib.hid fun ca cb => VecB.dist HVQ2.out HVZ2.out (Nat.le_refl _) ca cb
      clear b0 b1
      have hlowD : ∀ p, (u5 : Value).ownBlock = some p → p < D := fun p e => HOWD.out p e
      go_region_held3 (fun W => W.cell? ⟨D, 0, none⟩ = some (.int .u64 id) ∧ W.cell? ⟨D, 1, none⟩ = some (.slice ZA zv.length zc))
        (with_reducible first | assumption | exact (HALL.out _ (by assumption)).2 | exact (HALL.out _ (below_drew (by assumption))).2 | exact (HALL.out _ (below_allocS (by assumption) _)).2 | exact (HALL.out _ (below_drew (below_allocS (by assumption) _))).2)
        (first
          | (go_at_call 38; (with_reducible first | refine Calls.mono (HDX.out cq zc) ?_ | refine Calls.mono (HDY.out cq zc) ?_); rw [← HDI.out]; rintro e W1 ⟨rfl, hb1⟩)
          | (refine step_append_cells (by rfl) _ _ 28 (by rfl) w.heap.size 33 i0 _ 3 24 Try.underlying28 hi0 hz0 hz1 hz2 rfl (by decide) u5 k (cellsS ((spotsL q its).take k)) (by rfl) ((own_kept HOX.out (fun p e => hb1.block p (Nat.lt_trans (hlowD p e) hsz))).alloc _) (some ⟨W1.heap.size, 0, none⟩) 1 1 [.int .u64 (distI q ⟨id, ZA, zv, zc, tg⟩), .int .u64 id, .int .i64 (k : Int)] (by rfl) (by rfl) (fun e => by cases e) (one_news (heap_alloc_new W1 _)) (by simp [Value.oneCell']) l4 l5 (by have := hb1.size; have := HBX.out.size; simp; omega) ?_; intro v2 W2 hown2 hg2; have hs0 := hg2.cell_far (a := ⟨D, 0, none⟩) (by have := hb1.size; simp; omega) (fun e => absurd (hlowD D e.symm) (Nat.lt_irrefl _)); have hs1 := hg2.cell_far (a := ⟨D, 1, none⟩) (by have := hb1.size; simp; omega) (fun e => absurd (hlowD D e.symm) (Nat.lt_irrefl _)); have hS := And.intro (hs0.trans (HALL.out _ (below_allocS hb1 _)).2.1) (hs1.trans (HALL.out _ (below_allocS hb1 _)).2.2); clear hs0 hs1))
      have hb2 := ownBase ((own_kept HOX.out (fun p e => hb1.block p (Nat.lt_trans (hlowD p e) hsz))).alloc _) ((HBX.out.trans (hb1.mono HBX.out.size)).alloc (Nat.le_trans HBX.out.size hb1.size) _) (Nat.le_refl _) (by have := hb1.size; have := HBX.out.size; simp; omega) hg2
      have hown3 : W2.ownsRow w.heap.size 33 3 v2 (k + 1) (cellsS ((spotsL q its).take (k + 1))) := by rw [HT.out]; exact hown2
      clear hown2 hg2 hlowD
      go_wp2
      go_roundw
      case rel => exact ⟨k + 1, by omega, by go_num, hown3, hb2⟩
      case measure => simp [intOf]; omega
    · have hke : k = its.length := by omega
      subst hke
      have HE := Lib.hid (HSL.out)
      rw [List.take_of_length_le (by rw [HSL.out]; exact Nat.le_refl _)] at hown
      rw [← HSL.out] at hown
      obtain ⟨A2, c2, rfl, hc2, hm2⟩ := ownSlice hown
      have HR := Lib.hid (rdS_own hown)
      have HNW : Hid (spotsL q its ≠ [] → ∀ p o, A2 = some ⟨p, o, none⟩ → w.heap.size ≤ p) := Lib.hid fun hne p o e => by
        have hpos : 0 < (spotsL q its).length := List.length_pos_iff.2 hne
        obtain ⟨g, hg1, hg2, _⟩ := ownPos hown hpos
        rw [hg1] at e
        injection e with e
        injection e with e
        omega
      clear hown
      go_wp2
      go_ret
      exact ⟨A2, c2, rfl, HR.out, hc2, hm2, hbel, HNW.out⟩

end Go.Proofs.Ytglbefkfbnaijaa
