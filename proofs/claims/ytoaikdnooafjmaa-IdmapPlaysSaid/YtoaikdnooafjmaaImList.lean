/- idmap's List, by contract: gathered shard by shard in whatever order, and sorted. -/
import Derived.Test.YtoaikdnooafjmaaImOrd
import Derived.Test.YtoaikdnooafjmaaImDo
import Derived.Deep.AppendLies
namespace Go.Proofs.Ytoaikdnooafjmaa
open Go.RowKit Go.Maps Go.Sort Go.Shelf

theorem info_named : (Try.prog.info? 157).map (fun i => (i.zero, i.size, i.bytes)) = some (some (.agg #[.int .u64 0, .int .i64 0, .int .i64 0]), 3, 24) := by kernel_rfl
/-- What has been met: the shards before j, and of shard j what is not left. -/
def MetI (x : IX) (j : Nat) (left : Lit → Bool) (ks : List EntI) : Prop := (ks.map (·.1)).Nodup ∧ ∀ e, e ∈ ks ↔ findI x.L e.1 = some e.2 ∧ (shI x.n e.1 < j ∨ (shI x.n e.1 = j ∧ left (.int .u64 e.1) = false))
def CollI (x : IX) (j : Nat) (ks : List EntI) : Prop := (ks.map (·.1)).Nodup ∧ ∀ e, e ∈ ks ↔ findI x.L e.1 = some e.2 ∧ shI x.n e.1 < j
section
variable {x : IX} {j : Nat} {left : Lit → Bool} {ks : List EntI}
theorem CollI.start (x : IX) : CollI x 0 [] := ⟨List.nodup_nil, fun e => ⟨fun h => (by cases h), fun h => absurd h.2 (Nat.not_lt_zero _)⟩⟩
theorem CollI.met (h : CollI x j ks) (hl : ∀ k r, findI x.L k = some r → shI x.n k = j → left (.int .u64 k) = true) : MetI x j left ks := by
  refine ⟨h.1, fun e => ?_⟩
  rw [h.2]
  constructor
  · rintro ⟨h1, h2⟩
    exact ⟨h1, .inl h2⟩
  · rintro ⟨h1, h2 | ⟨h2, h3⟩⟩
    · exact ⟨h1, h2⟩
    · rw [hl e.1 e.2 h1 h2] at h3
      cases h3
theorem MetI.done (h : MetI x j left ks) (hl : ∀ kl, left kl = false) : CollI x (j + 1) ks := by
  refine ⟨h.1, fun e => ?_⟩
  rw [h.2]
  constructor
  · rintro ⟨h1, h2 | ⟨h2, _⟩⟩
    · exact ⟨h1, by omega⟩
    · exact ⟨h1, by omega⟩
  · rintro ⟨h1, h2⟩
    rcases Nat.lt_or_ge (shI x.n e.1) j with h3 | h3
    · exact ⟨h1, .inl h3⟩
    · exact ⟨h1, .inr ⟨by omega, hl _⟩⟩
theorem leftU_two {k i : Int} (h : (left (.int .u64 k) && !(Lit.int .u64 k).sameKey (.int .u64 i)) = false) : left (.int .u64 k) = false ∨ k = i := by
  cases hl : left (.int .u64 k)
  · exact .inl rfl
  · right
    rw [hl, Bool.true_and, Bool.not_eq_false'] at h
    have := WideAt.sameKey_eq h
    injection this
theorem MetI.more (h : MetI x j left ks) {k : Int} {r : RefT} (hk : findI x.L k = some r) (hs : shI x.n k = j) (hl : left (.int .u64 k) = true) : MetI x j (fun z => left z && !z.sameKey (.int .u64 k)) (ks ++ [(k, r)]) := by
  have hn : ∀ e ∈ ks, e.1 ≠ k := fun e he h1 => by
    obtain ⟨_, h2 | ⟨_, h2⟩⟩ := (h.2 e).1 he
    · rw [h1] at h2; omega
    · rw [h1, hl] at h2; cases h2
  refine ⟨?_, fun e => ?_⟩
  · rw [List.map_append, List.nodup_append]
    refine ⟨h.1, by simp, fun a ha b hb e => ?_⟩
    obtain ⟨u, hu, rfl⟩ := List.mem_map.1 ha
    simp only [List.map_cons, List.map_nil, List.mem_singleton] at hb
    exact hn u hu (e.trans hb)
  · rw [List.mem_append, h.2, List.mem_singleton]
    constructor
    · rintro (⟨h1, h2 | ⟨h2, h3⟩⟩ | rfl)
      · exact ⟨h1, .inl h2⟩
      · exact ⟨h1, .inr ⟨h2, by simp only [h3, Bool.false_and]⟩⟩
      · exact ⟨hk, .inr ⟨hs, by simp only [hl, Bool.true_and, WideAt.sameKey_self (isKeyU k)]; rfl⟩⟩
    · rintro ⟨h1, h2 | ⟨h2, h3⟩⟩
      · exact .inl ⟨h1, .inl h2⟩
      · rcases leftU_two h3 with h4 | h4
        · exact .inl ⟨h1, .inr ⟨h2, h4⟩⟩
        · right
          rw [h4, hk] at h1
          injection h1 with h1
          obtain ⟨e1, e2⟩ := e
          simp only at h1 h4
          rw [h4, h1]
theorem CollI.mem {m : Nat} (h : CollI x x.n ks) (hf : IFit m x) (e : EntI) : e ∈ x.L ↔ e ∈ ks := by
  rw [h.2]
  constructor
  · intro he
    exact ⟨hf.rise.find he, shI_lt hf.n1 _⟩
  · rintro ⟨h1, _⟩
    exact findI_mem h1
theorem keys_len {A B : List EntI} (hA : (A.map (·.1)).Nodup) (hB : RiseI B) (h : ∀ e, e ∈ B ↔ e ∈ A) : A.length = B.length := by
  have hAn : A.Nodup := (List.pairwise_map.1 (List.nodup_iff_pairwise_ne.1 hA)).imp (fun hne e => hne (by rw [e]))
  exact ((List.perm_ext_iff_of_nodup hAn hB.nodup).2 fun e => (h e).symm).length_eq
theorem sub_len : ∀ (ks L : List EntI), ks.Nodup → (∀ e ∈ ks, e ∈ L) → ks.length ≤ L.length
  | [], L, _, _ => Nat.zero_le _
  | a :: t, L, hn, hs => by
    have hp := List.nodup_cons.1 hn
    have ha := hs a List.mem_cons_self
    have h1 := sub_len t (L.erase a) hp.2 fun e he => (List.mem_erase_of_ne (fun e2 => hp.1 (by rw [← e2]; exact he))).2 (hs e (List.mem_cons_of_mem _ he))
    have h2 := List.length_erase_of_mem ha
    have h3 := List.length_pos_of_mem ha
    rw [List.length_cons]
    omega
/-- Each list of met ones is short. -/
theorem MetI.few {m : Nat} (h : MetI x j left ks) (hf : IFit m x) : ks.length ≤ m := by
  have hn : ks.Nodup := (List.pairwise_map.1 (List.nodup_iff_pairwise_ne.1 h.1)).imp (fun hne e => hne (by rw [e]))
  exact Nat.le_trans (sub_len ks x.L hn fun e he => findI_mem ((h.2 e).1 he).1) hf.len
end
/-- What List tells. -/
def IdsOut (L : List EntI) (w : World) (e : Ending) (w' : World) : Prop := ∃ A c, e = .returned (.slice A L.length c) ∧ RdN w' w.heap.size A L ∧ Below w.heap.size w w'
section
variable {w : World} {B bs m : Nat} {bm : Nat → Nat} {x : IX}
set_option maxRecDepth 100000 in
set_option maxHeartbeats 4000000 in
theorem imList_any (h : Im w B bs bm m x) (hf : IFit m x) (hm : m < 100000) : Calls Try.prog 90 #[.pointer (some ⟨B, 0, none⟩)] w (IdsOut x.L w) := by
  obtain ⟨i0, hi0, hz0, hz1, hz2⟩ := info_parts info_named
  have c0 := h.c0
  have hn := hf.n64
  have HH := Lib.hid h
  have HF := Lib.hid hf
  clear h hf
  go_enter Try.func90, Try.ntmps90
  go_wp2
  go_loopw [3, 15] (fun s i wr => ∃ (j : Nat) (ks : List EntI), j ≤ x.n ∧ i = .int .i64 (j : Int) ∧ wr.ownsRow w.heap.size 157 3 s ks.length (cellsN ks) ∧ Below w.heap.size w wr ∧ Hid (CollI x j ks)) (fun _ i _ => x.n - (intOf i).toNat)
  case atStart => exact ⟨0, [], Nat.zero_le _, rfl, World.ownsRow_nil _ _ _ _, Below.refl _ _, CollI.start x⟩
  case round =>
    obtain ⟨j, ks, hj, rfl, hrow, hb, HC⟩ := hrel
    by_cases hjn : j < x.n
    · have hjn1 : (j : Int) < (x.n : Int) := by omega
      have hj0 : (0 : Int) ≤ (j : Int) := by omega
      have hIm := HH.out.later HF.out.n1 hb
      have sh := hIm.sh j hjn
      obtain ⟨D, hown, hat, _⟩ := hIm.mp j hjn
      have hbl : bm j < w.heap.size := (HH.out.mp j hjn).lt
      have HAT := Lib.hid hat
      obtain ⟨W1, rfl⟩ : ∃ W1, W1 = wr := ⟨_, rfl⟩
      have hsz := hb.size
      have hrl : ∀ g, u3.ownBlock = some g → g < W1.heap.size := fun g hg => (hrow.lt g hg).2
      have HM0 := Lib.hid (HC.out.met (left := Maps.has D) (fun k r hk hs => by
        have hu := HF.out.ids _ (findI_mem hk)
        rw [(hat k hu).1]
        show (if shI x.n k = j then findI x.L k else none).isSome = true
        rw [if_pos hs, hk]
        rfl))
      have HROW := Lib.hid hrow
      have HB := Lib.hid hb
      have HRL := Lib.hid hrl
      clear hat hIm HC hrow hb hrl
      go_wp2_with (first
        | (at_range; refine wpList_range_own _ rfl _ 211 rfl 118 99 law_u64 under_ids valR (bm j) m D rfl hown ?_; intro w0 hrg0 hg0 hs0)
        | go_in)
      try go_frame
      have HNE : Hid (u3.ownBlock ≠ some W1.heap.size) := Lib.hid fun e => Nat.lt_irrefl _ (HRL.out _ e)
      obtain ⟨r, hr⟩ : ∃ r, W1.heap.size = r := ⟨_, rfl⟩
      have HR : Hid (w.heap.size ≤ r ∧ r < w0.heap.size) := Lib.hid ⟨by omega, by omega⟩
      rw [hr] at hrg0 HNE
      rw [hr]
      have HRO : Hid (w0.ownsRow w.heap.size 157 3 u3 ks.length (cellsN ks)) := Lib.hid (ownsRow_same HROW.out (fun g hg => hg0.block g (HRL.out g hg) (fun e => by cases e)))
      have HB0 : Hid (Below w.heap.size w w0) := Lib.hid (HB.out.grown hg0 hsz (fun j hj => by cases hj))
      clear hg0 hs0 hown sh HRL hr HROW HB
      go_loopw [3] (fun s wr => ∃ (left : Lit → Bool) (cnt : Nat) (ks : List EntI), wr.ranges Try.prog 118 valR (bm j) r m D left cnt ∧ wr.ownsRow w.heap.size 157 3 s ks.length (cellsN ks) ∧ s.ownBlock ≠ some r ∧ Below w.heap.size w wr ∧ Hid (MetI x j left ks))
        (fun _ wr => wr.rangeLeft (bm j) r)
      case atStart => exact ⟨_, _, ks, hrg0, HRO.out, HNE.out, HB0.out, HM0⟩
      case round =>
        obtain ⟨left, cnt, ks2, hrg, hrow, hne, hb, HM⟩ := hrel
        go_wp2_with (first
          | (at_next; refine wpList_next_ranges _ rfl _ rfl 118 law_u64 valR (Value.int .u64) id (fun key kl hkey => by obtain ⟨x, rfl, _⟩ := Maps.keyOf_int_inv Try.underlying118 hkey; exact ⟨x, rfl⟩) (fun v y _ => ⟨v, rfl⟩) (bm j) r m _ _ _ rfl hrg ?_ ?_)
          | go_in)
        · intro _ hl0
          have HC2 := Lib.hid (HM.out.done hl0)
          have HX := Lib.hid (And.intro hrow hb)
          clear hrow hb hrg hne HM
          go_wp2
          go_roundw
          case rel => exact ⟨j + 1, ks2, by omega, by go_num, HX.out.1, HX.out.2, HC2⟩
          case measure => simp [intOf]; omega
        · intro k c kl yd ys w1 cnt1 hkey hlx hv hat hrg1 hlt hg1 hs1 hen
          obtain ⟨k2, ek, rfl, hwk⟩ := Maps.keyOf_int_inv Try.underlying118 hkey
          cases ek
          have hy : yd = .held c := by simp only [valR, Option.some.injEq, Prod.mk.injEq] at hv; exact hv.1.symm
          subst hy
          obtain ⟨a1, a2⟩ := HAT.out k hwk
          rw [Maps.has_true_of_atKey hat] at a1
          rw [hat] at a2
          have hc : c = refV (((if shI x.n k = j then findI x.L k else none)).getD (0, 0)) := by injection a2
          have hsj : shI x.n k = j := by
            rcases Decidable.em (shI x.n k = j) with e | e
            · exact e
            · rw [if_neg e] at a1; cases a1
          rw [if_pos hsj] at a1 hc
          obtain ⟨r0, hr0⟩ : ∃ r0, findI x.L k = some r0 := by
            cases hfk : findI x.L k with
            | none => rw [hfk] at a1; cases a1
            | some r0 => exact ⟨r0, rfl⟩
          rw [hr0] at hc
          obtain ⟨rs, rg⟩ := r0
          have hc2 : c = .agg #[.int .i64 rs, .int .i64 rg] := hc
          subst hc2
          have HM2 := Lib.hid (HM.out.more hr0 hsj hlx)
          have hfew := HM2.out.few HF.out
          have hb1 : Below w.heap.size w w1 := hb.grown hg1 hb.size (fun i hi => by cases hi; exact HR.out.1)
          have hrow1 := ownsRow_same hrow (fun g hg => hg1.block g (hrow.lt g hg).2 (fun e => hne (by rw [hg]; exact e)))
          obtain ⟨kl2, hkl⟩ : ∃ kl2, ks2.length = kl2 := ⟨_, rfl⟩
          rw [List.length_append, List.length_singleton, hkl] at hfew
          have hrl1 : r < w1.heap.size := by rw [hs1]; exact hrg.lt
          have HRW := Lib.hid (And.intro hrow1 (And.intro hb1 (And.intro hrg1 hne)))
          have HLE := Lib.hid hrg.left_eq
          have HKL := Lib.hid hkl
          obtain ⟨W3, hW3⟩ : ∃ W3, W3 = (w1.alloc (.cells #[.int .i64 rs, .int .i64 rg] 99)).alloc (.cells #[.int .u64 k, .int .i64 rs, .int .i64 rg] 157) := ⟨_, rfl⟩
          have hsz3 : W3.heap.size = w1.heap.size + 2 := by rw [hW3]; simp
          have HRA : Hid (W3.ownsRow w.heap.size 157 3 u3 kl2 (cellsN ks2)) := Lib.hid (by rw [hW3, ← hkl]; exact (hrow1.alloc _).alloc _)
          have HRG : Hid (W3.ranges Try.prog 118 valR (bm j) r m D (fun z => left z && !z.sameKey (.int .u64 k)) cnt1) := Lib.hid (by rw [hW3]; exact (hrg1.alloc _).alloc _)
          have HB3 : Hid (Below w.heap.size w W3) := Lib.hid (by rw [hW3]; exact (hb1.alloc hb1.size _).alloc (by rw [World.size_alloc]; exact Nat.le_succ_of_le hb1.size) _)
          have hh3 : W3.heap[w1.heap.size + 1]? = some (.cells #[.int .u64 k, .int .i64 rs, .int .i64 rg] 157 (0, 0)) := by
            have := heap_alloc_last (w1.alloc (.cells #[.int .i64 rs, .int .i64 rg] 99)) (.cells #[.int .u64 k, .int .i64 rs, .int .i64 rg] 157)
            rw [World.size_alloc] at this
            rw [hW3]
            exact this
          have HNW := Lib.hid (World.news_of_block (w := W3) (B := w1.heap.size + 1) (cs := #[.int .u64 k, .int .i64 rs, .int .i64 rg]) (t := 157) (fr := (0, 0)) hh3)
          rw [hW3] at HNW HRA
          have HW3 := Lib.hid hW3
          have HS3 := Lib.hid hsz3
          clear hW3 hsz3 hh3
          clear hv hat a1 a2 hc hr0 hsj hlx hrow hb hg1 hs1 HM hrow1 hb1 hrg1 hkl hkey
          obtain ⟨A, cp, rfl, hlc, hcm⟩ := ownSlice HRA.out
          go_wp2_with (at_builtin; refine wpList_append_lies _ rfl _ _ 113 rfl w.heap.size 157 i0 _ 3 24 Try.underlying113 hi0 hz0 hz1 hz2 rfl (by decide) (.slice A kl2 cp) kl2 (cellsN ks2) rfl HRA.out ⟨w1.heap.size + 1, 0, none⟩ 1 1 [.int .u64 k, .int .i64 rs, .int .i64 rg] rfl rfl HNW.out (by simp [Value.oneCell']) (by decide) (by unfold maxLen; omega) (by omega) (by rw [← HW3.out]; exact HB3.out.size) (w1.heap.size + 2) (by rw [← HW3.out]; exact HS3.out) ?_; intro gg cap w8 hown8 hgrow hat hlt8)
          have hown9 : w8.ownsRow w.heap.size 157 3 (.slice (some ⟨gg, 0, none⟩) (kl2 + 1) cap) (ks2 ++ [(k, (rs, rg))]).length (cellsN (ks2 ++ [(k, (rs, rg))])) := by
            rw [List.length_append, List.length_singleton, HKL.out, cellsN_snoc]
            exact hown8
          rw [← HW3.out] at hgrow
          have hrw := HRW.out.1
          rw [HKL.out] at hrw
          have hne2 : ∀ g, (Value.slice A kl2 cp).ownBlock = some g → g ≠ r ∧ g ≠ bm j := fun g hg => ⟨fun e => HRW.out.2.2.2 (by rw [← e]; exact hg), fun e => by have := (hrw.lt g hg).1; omega⟩
          have hrg2 := HRG.out.kept hgrow (fun e => (hne2 _ e.symm).2 rfl) (fun e => (hne2 _ e.symm).1 rfl)
          have hb9 : Below w.heap.size w w8 := HB3.out.grown hgrow HB3.out.size (fun g hg => (hrw.lt g hg).1)
          have hne9 : (Value.slice (some ⟨gg, 0, none⟩) (kl2 + 1) cap).ownBlock ≠ some r := fun e => by
            have hgr : gg = r := by injection e
            rcases hat with e2 | e2
            · exact (hne2 _ e2).1 hgr
            · omega
          have HX := Lib.hid (And.intro hown9 (And.intro hrg2 (And.intro hb9 hne9)))
          clear hown8 hown9 hgrow hat hlt8 hrw hne2 hrg2 hb9 hne9 HRW HNW HRA HRG HB3 HW3 HS3
          go_wp2
          go_roundw
          case rel => exact ⟨_, cnt1, _, HX.out.2.1, HX.out.1, HX.out.2.2.2, HX.out.2.2.1, HM2.out⟩
          case measure => rw [HX.out.2.1.left_eq, HLE.out]; exact hlt
    · obtain rfl : j = x.n := by omega
      have hmem := fun e => HC.out.mem HF.out e
      have hnd := HC.out.1
      have hlen := keys_len hnd HF.out.rise hmem
      have hlm := HF.out.len
      obtain ⟨A, cp, rfl, hlc, hcm⟩ := ownSlice hrow
      rcases hrow.2 with ⟨hv, h0⟩ | ⟨g, cap, cur, hv, hbase, hg, h1, h2, h3, h4⟩
      · injection hv with hA h01 h02
        subst hA h02
        have hL0 : x.L = [] := List.eq_nil_of_length_eq_zero (by omega)
        have HS := Lib.hid (fun c => SortNamed_none none c (.func (.func 152) #[] #[]) wr)
        have HB := Lib.hid hb
        have HL0 := Lib.hid hL0
        rw [h0]
        clear hrow hb HC hlc hcm hmem hnd hlen hL0
        go_wp2_with fail
        refine (HS.out _).mono ?_
        rintro e w2 ⟨rfl, rfl⟩
        go_wp2
        go_ret
        refine ⟨none, 0, by rw [HL0.out]; rfl, fun k e hk => ?_, HB.out⟩
        rw [HL0.out] at hk
        cases hk
      · injection hv with hA h01 h02
        subst hA h02
        have hgl : g < wr.heap.size := (Array.getElem?_eq_some_iff.1 hg).1
        have hH := holdsN_own hrow rfl
        have HS := Lib.hid (SortNamed_any g cp hnd HF.out.rise hmem wr hH hgl (by omega))
        have HHO := Lib.hid hH
        have HB := Lib.hid hb
        have HL := Lib.hid hlen
        have HGB := Lib.hid (And.intro hbase hgl)
        clear hrow hb HC hlc hcm hmem hnd hlen hH hg h1 h2 h3 h4
        go_wp2_with fail
        refine HS.out.mono ?_
        rintro e w2 ⟨rfl, n, os, hw2⟩
        have hK : HoldsK encN 3 w2 g 0 x.L.toArray := by
          rw [hw2]
          exact holdsK_sortWorldK_c encN 3 wr g 0 ks.toArray _ n os HHO.out HGB.out.2 (by simp [HL.out])
        have hb2 : Below w.heap.size w w2 := HB.out.trans (by rw [hw2]; exact sortN_below HGB.out.1 HGB.out.2)
        have hgw2 : g < w2.heap.size := by rw [hw2]; exact Nat.lt_of_lt_of_le HGB.out.2 (sortN_below (Nat.le_refl g) HGB.out.2 : Below g wr _).size
        have HX := Lib.hid (And.intro hK (And.intro hb2 hgw2))
        clear hw2 hK hb2 hgw2 HS
        go_wp2
        go_ret
        rw [HL.out]
        refine ⟨some ⟨g, 0, none⟩, cp, rfl, fun k e hk => ?_, HX.out.2.1⟩
        obtain ⟨hkl, rfl⟩ := List.getElem?_eq_some_iff.1 hk
        have q := fun c hc => (HX.out.1.cell (i := k) (c := c) (by simpa using hkl) hc).1
        refine ⟨g, rfl, HGB.out.1, HX.out.2.2, ?_, ?_, ?_⟩
        · have := q 0 (by decide); simpa [hkl, encN] using this
        · have := q 1 (by decide); simpa [hkl, encN] using this
        · have := q 2 (by decide); simpa [hkl, encN] using this
end

end Go.Proofs.Ytoaikdnooafjmaa
