/- The document's choice of candidates (ganglionref10): Apart, Best, by contract. -/
import Derived.Test.YtlgkdonaplejdaaRefPlaces
namespace Go.Proofs.Ytlgkdonaplejdaa
open Go.RowKit Go.Shelf Go.Sort Go.Lib

theorem splitGo_uncut (its : List ItT) (most big : Int) : ∀ (M ch oth : List TagC), ((ch.length + M.length : Nat) : Int) ≤ big → ((splitGo its big M ch oth).1.length : Int) < most → splitGo its most M ch oth = splitGo its big M ch oth
  | [], ch, oth, _, _ => rfl
  | c :: M, ch, oth, hb, h => by
    have hb' : ((ch.length + (M.length + 1) : Nat) : Int) ≤ big := by simpa using hb
    have hch : (ch.length : Int) ≤ ((splitGo its big (c :: M) ch oth).1.length : Int) := by
      obtain ⟨T, hT⟩ := splitGo_keeps its big (c :: M) ch oth
      rw [hT, List.length_append]
      omega
    have e1 : splitGo its most (c :: M) ch oth = if nearC its ch c = true then splitGo its most M ch (oth ++ [c]) else splitGo its most M (ch ++ [c]) oth := by rw [splitGo, if_neg (by omega)]
    have e2 : splitGo its big (c :: M) ch oth = if nearC its ch c = true then splitGo its big M ch (oth ++ [c]) else splitGo its big M (ch ++ [c]) oth := by rw [splitGo, if_neg (by omega)]
    rw [e2] at h
    rw [e1, e2]
    by_cases hn : nearC its ch c = true
    · rw [if_pos hn] at h ⊢
      rw [if_pos hn]
      exact splitGo_uncut its most big M ch _ (by omega) h
    · rw [if_neg hn] at h ⊢
      rw [if_neg hn]
      exact splitGo_uncut its most big M _ oth (by simp; omega) h
/-- The best are the first ones of those that are apart, and of the others. -/
theorem best_eq {its : List ItT} {most big : Int} {M : List TagC} (hm : 1 ≤ most) (hb : (M.length : Int) ≤ big) : bestL its most M = ((splitGo its big M [] []).1 ++ (splitGo its big M [] []).2).take most.toNat := by
  by_cases h : ((splitGo its big M [] []).1.length : Int) < most
  · unfold bestL
    rw [splitGo_uncut its most big M [] [] (by simpa using hb) h, List.take_append]
    rw [List.take_of_length_le (show (splitGo its big M [] []).1.length ≤ most.toNat by omega)]
    congr 2
    omega
  · have e := splitGo_take its most big M [] [] [] (by simpa using hb)
    simp only [List.length_nil, Nat.max_zero] at e
    unfold bestL
    rw [e, List.length_take, List.take_append]
    have h1 : min most.toNat (splitGo its big M [] []).1.length = most.toNat := by omega
    rw [h1, show most.toNat - (splitGo its big M [] []).1.length = 0 by omega, show (most - (most.toNat : Int)).toNat = 0 by omega]
    simp
theorem spotsC_cand (zs : List SpotT) (its : List ItT) (I : List Nat) : spotsC (I.map (cand zs its)) = I.map (spAt zs) := by
  unfold spotsC
  rw [List.map_map]
  rfl
theorem own_newI (w : World) : (w.alloc (.cells #[] 3)).ownsRow w.heap.size 3 1 (.slice (some ⟨w.heap.size, 0, none⟩) 0 0) 0 [] := World.ownsRow_made w #[] 0 (Nat.le_refl _) (Nat.zero_le _) rfl
theorem natV_one {I : List Nat} : ∀ u ∈ I.map natV, u.oneCell' = true := by
  intro u hu
  obtain ⟨t, _, rfl⟩ := List.mem_map.1 hu
  rfl
theorem own_noneI {w : World} {base n c : Nat} {A : Option Addr} {I : List Nat} (h : w.ownsRow base 3 1 (.slice A n c) n (I.map natV)) : A = none → n = 0 := fun e => by
  subst e
  rcases Nat.eq_zero_or_pos n with h0 | h0
  · exact h0
  · obtain ⟨g, e, _⟩ := ownPos h h0
    cases e
theorem own_news {w : World} {base n c : Nat} {A : Option Addr} {I : List Nat} (h : w.ownsRow base 3 1 (.slice A n c) n (I.map natV)) : ∀ ad, A = some ad → ∀ j u, (I.map natV)[j]? = some u → w.cell? (ad.add j) = some u := by
  intro ad e j u hj
  have hlen : (I.map natV).length = n * 1 := h.1
  have hj2 := (List.getElem?_eq_some_iff.1 hj).1
  obtain ⟨g, e2, _, _⟩ := ownPos h (by omega)
  rw [e] at e2
  injection e2 with e2
  subst e2
  have ea : Addr.add ⟨g, 0, none⟩ j = ⟨g, j, none⟩ := by
    unfold Addr.add
    split
    · rename_i h0; subst h0; rfl
    · simp
  rw [ea]
  subst e
  exact (h.cellAt j (by omega)).trans hj
def RefApartC (zs : List SpotT) (its : List ItT) (w : World) (e : Ending) (W : World) : Prop :=
  ∃ M, IsOrd zs its M ∧ SpotsOut (spotsC (splitGo its (zs.length : Int) M [] []).1) w e W
def RefBestC (zs : List SpotT) (its : List ItT) (most : Int) (w : World) (e : Ending) (W : World) : Prop :=
  ∃ M, IsOrd zs its M ∧ SpotsOut (if most < 1 then [] else spotsC (bestL its most M)) w e W
theorem OrdTo.is {zs : List SpotT} {its : List ItT} {L : List Nat} (h : OrdTo zs its zs.length L) : IsOrd zs its (L.map (cand zs its)) := ⟨by rw [candsL_map]; exact h.perm.map _, h.sort⟩
theorem take_next {zs : List SpotT} {I : List Nat} {k : Nat} (h : k < I.length) : (I.map (spAt zs)).take (k + 1) = (I.map (spAt zs)).take k ++ [spAt zs I[k]] := by
  rw [List.take_succ_eq_append_getElem (by simpa using h)]
  simp

set_option maxRecDepth 100000 in
set_option maxHeartbeats 4000000 in
theorem refApart_any (A : Option Addr) (zs : List SpotT) (ca : Nat) (I0 : Option Addr) (its : List ItT) (ci : Nat) (w : World) (hA : RdS w w.heap.size A zs) (hI : ItemsAt w w.heap.size I0 its) (hl : zs.length ≤ 1000 ∧ its.length ≤ 1000) :
    Calls Try.prog 19 #[.slice A zs.length ca, .slice I0 its.length ci] w (RefApartC zs its w) := by
  obtain ⟨i1, hp0, hp1, hp2, hp3⟩ := info_parts info_spot
  have HP := Lib.hid (refPlaces_any A zs ca I0 its ci w hA hI hl)
  have HL := Lib.hid hl
  have HA := Lib.hid hA
  clear hA hI hl
  go_enter Try.func19, Try.ntmps19
  go_wp2_with fail
  refine Calls.mono HP.out ?_
  rintro e w1 ⟨L, I, O, A6, c6, A7, c7, rfl, hO, hsp, hm, hlen, h6, h7, hb⟩
  have HO := Lib.hid hO.is
  have HSP := Lib.hid hsp
  have HM := Lib.hid hm
  have HR := Lib.hid h6
  have HB := Lib.hid hb
  have HA1 := Lib.hid ((HA.out.below hb).more hb.size)
  have hI1 : I.length ≤ 1000 := by have := HL.out.1; omega
  clear hO hsp hm h6 h7 hb HA HP hlen
  obtain ⟨n, hn⟩ : ∃ n, zs.length = n := ⟨_, rfl⟩
  have HN := Lib.hid hn
  rw [hn]
  clear hn
  go_wp2
  go_loopw [18, 7] (fun i v wr => ∃ k : Nat, k ≤ I.length ∧ i = .int .i64 k ∧ wr.ownsRow w1.heap.size 37 3 v k (cellsS ((I.map (spAt zs)).take k)) ∧ Below w1.heap.size w1 wr) (fun i _ _ => I.length - (intOf i).toNat)
  case atStart => exact ⟨0, Nat.zero_le _, rfl, World.ownsRow_nil _ _ _ _, Below.refl _ _⟩
  case round =>
    obtain ⟨k, hk, rfl, hown, hbel⟩ := hrel
    have hsz := hbel.size
    by_cases hlt : k < I.length
    · obtain ⟨g6, rfl, _, hg6⟩ := ownPos HR.out (by omega)
      have hc : wr.cell? ⟨g6, k, none⟩ = some (.int .i64 (I[k] : Int)) := by
        have h := HR.out.cellAt k (by omega)
        rw [rowN_get hlt] at h
        exact (hbel.cell (p := ⟨g6, k, none⟩) hg6).trans h
      have htn : I[k] < zs.length := HM.out _ (List.mem_append_left _ (List.getElem_mem hlt))
      obtain ⟨bS, oS, rfl, hbS, y0, y1, y2⟩ := (HA1.out.below hbel) I[k] _ (spAt_lt htn)
      have HT : Hid (cellsS ((I.map (spAt zs)).take (k + 1)) = cellsS ((I.map (spAt zs)).take k) ++ encS (spAt zs I[k])) := by rw [Hid, take_next hlt, cellsS_snoc]
      have ht1 : I[k] < n := by have := HN.out; omega
      generalize I[k] = t at *
      generalize spAt zs t = s at *
      obtain ⟨⟨sa, sb⟩, sc⟩ := s
      unfold encS at HT
      simp only at y0 y1 y2 HT
      have s1 : (k : Int) < (I.length : Int) := by omega
      have s2 : (0 : Int) ≤ (k : Int) := by omega
      have s3 : ((k : Int)).toNat = k := Int.toNat_natCast k
      have s4 : (t : Int) < (n : Int) := by omega
      have s5 : (0 : Int) ≤ (t : Int) := by omega
      have s6 : ((t : Int)).toNat = t := Int.toNat_natCast t
      go_wp2_with (at_builtin; refine wpList_append_lies _ rfl _ _ 22 rfl w1.heap.size 37 i1 _ 3 24 Try.underlying22 hp0 hp1 hp2 hp3 rfl (by decide) _ k (cellsS ((I.map (spAt zs)).take k)) rfl (hown.alloc _) ⟨wr.heap.size, 0, none⟩ 1 1 [.int .u64 sa, .int .u64 sb, .int .i64 sc] rfl rfl (World.news_of_block (cs := #[.int .u64 sa, .int .u64 sb, .int .i64 sc]) (t := 37) (fr := (0, 0)) (heap_alloc_new wr _)) (by simp [Value.oneCell']) (by decide) (by unfold maxLen; omega) (by omega) (by simp; omega) (wr.heap.size + 1) (by simp) ?_; intro g cap W3 hown3 hgrow hat hlt3)
      have hb3 := ownBase (hown.alloc (.cells #[.int .u64 sa, .int .u64 sb, .int .i64 sc] 37)) (hbel.alloc hbel.size (.cells #[.int .u64 sa, .int .u64 sb, .int .i64 sc] 37)) (Nat.le_refl _) (by simp; omega) hgrow
      rw [← HT.out] at hown3
      have HO3 := Lib.hid hown3
      have HB3 := Lib.hid hb3
      clear hgrow hat hlt3 hown hown3 hbel hsz hb3 y0 y1 y2 hc
      go_wp2
      go_roundw
      case rel => exact ⟨k + 1, by omega, by go_num, HO3.out, HB3.out⟩
      case measure => simp [intOf]; omega
    · obtain rfl : k = I.length := by omega
      rw [List.take_of_length_le (by simp)] at hown
      have hown2 : wr.ownsRow w1.heap.size 37 3 u7 (I.map (spAt zs)).length (cellsS (I.map (spAt zs))) := by rw [List.length_map]; exact hown
      obtain ⟨A9, c9, rfl, h1, h2⟩ := ownSlice hown2
      go_wp2
      go_ret
      refine ⟨_, HO.out, A9, c9, ?_, ?_, ?_, h2, HB.out.trans (hbel.mono HB.out.size)⟩
      · rw [HSP.out, spotsC_cand, List.length_map]; rfl
      · rw [HSP.out, spotsC_cand]; exact rdS_own hown2
      · rw [HSP.out, spotsC_cand]; exact h1

theorem take_min {α : Type} (L : List α) (k m : Nat) (h : k ≤ L.length) : ((L.take k).take m).length = min m k := by
  rw [List.length_take, List.length_take]
  omega
set_option maxRecDepth 100000 in
set_option maxHeartbeats 4000000 in
theorem refBest_any (A : Option Addr) (zs : List SpotT) (ca : Nat) (I0 : Option Addr) (its : List ItT) (ci : Nat) (most : Int) (w : World) (hA : RdS w w.heap.size A zs) (hI : ItemsAt w w.heap.size I0 its) (hl : zs.length ≤ 1000 ∧ its.length ≤ 1000) :
    Calls Try.prog 21 #[.slice A zs.length ca, .slice I0 its.length ci, .int .i64 most] w (RefBestC zs its most w) := by
  obtain ⟨i1, hp0, hp1, hp2, hp3⟩ := info_parts info_spot
  obtain ⟨i2, hq0, hq1, hq2, hq3⟩ := info_parts info_int
  have HP := Lib.hid (refPlaces_any A zs ca I0 its ci w hA hI hl)
  have HL := Lib.hid hl
  have HA := Lib.hid hA
  clear hA hI hl
  go_enter Try.func21, Try.ntmps21
  go_wp2_with fail
  refine Calls.mono HP.out ?_
  rintro e w1 ⟨L, I, O, A6, c6, A7, c7, rfl, hO, hsp, hm, hlen, h6, h7, hb⟩
  have HO := Lib.hid hO.is
  have HSP := Lib.hid hsp
  have HM := Lib.hid hm
  have HR6 := Lib.hid h6
  have HR7 := Lib.hid h7
  have HB := Lib.hid hb
  have HA1 := Lib.hid ((HA.out.below hb).more hb.size)
  have hI1 : I.length ≤ 1000 := by have := HL.out.1; omega
  have hO1 : O.length ≤ 1000 := by have := HL.out.1; omega
  have HLN := Lib.hid hlen
  clear hO hsp hm h6 h7 hb HA HP hlen
  obtain ⟨n, hn⟩ : ∃ n, zs.length = n := ⟨_, rfl⟩
  have HN := Lib.hid hn
  rw [hn]
  clear hn
  have hbn : Below w1.heap.size w1 (w1.alloc (.cells #[] 3)) := (Below.refl _ w1).alloc (Nat.le_refl _) _
  have HR6' := Lib.hid (own_below HR6.out hbn)
  have HR7' := Lib.hid (own_below HR7.out hbn)
  have HN0 := Lib.hid (own_newI w1)
  have HBN := Lib.hid hbn
  have hs1 : w1.heap.size ≤ (w1.alloc (.cells #[] 3)).heap.size := by simp
  clear hbn
  go_upto_region 4 with (at_builtin; refine wpList_append_cells rfl _ _ 44 rfl w1.heap.size 3 i2 (.int .i64 0) 1 8 Try.underlying44 hq0 hq1 hq2 hq3 rfl (by decide) _ 0 [] rfl HN0.out A6 I.length c6 (I.map natV) rfl (by simp) (own_noneI HR6'.out) (own_news HR6'.out) natV_one (by unfold maxLen; omega) (by omega) hs1 ?_; intro v2 W2 hown2 hg2; obtain ⟨A2, c2, rfl, _, _⟩ := ownSlice hown2; rw [Nat.zero_add, List.nil_append] at hown2; rw [Nat.zero_add])
  have hb2 := ownBase HN0.out HBN.out (Nat.le_refl _) hs1 hg2
  have HR7b := Lib.hid (own_below HR7.out hb2)
  have HO2 := Lib.hid hown2
  have HB2 := Lib.hid hb2
  have hs2 := hb2.size
  clear hown2 hg2 hb2 HR6' HR7' HN0 hs1
  go_upto_region 5 with (at_builtin; refine wpList_append_cells rfl _ _ 44 rfl w1.heap.size 3 i2 (.int .i64 0) 1 8 Try.underlying44 hq0 hq1 hq2 hq3 rfl (by decide) _ I.length (I.map natV) rfl HO2.out A7 O.length c7 (O.map natV) rfl (by simp) (own_noneI HR7b.out) (own_news HR7b.out) natV_one (by unfold maxLen; omega) (by omega) hs2 ?_; intro v3 W3 hown3 hg3; obtain ⟨A3, c3, rfl, _, _⟩ := ownSlice hown3; rw [← List.map_append] at hown3)
  have hb3 := ownBase HO2.out HB2.out (Nat.le_refl _) hs2 hg3
  have hJl : (I ++ O).length = I.length + O.length := List.length_append
  obtain ⟨m, hm⟩ : ∃ m, I.length + O.length = m := ⟨_, rfl⟩
  rw [hm] at hown3 hJl ⊢
  have hown4 : W3.ownsRow w1.heap.size 3 1 (.slice A3 m c3) m ((I ++ O).map natV) := hown3
  have HO3 := Lib.hid hown4
  have HB3 := Lib.hid hb3
  have hJ1 : m ≤ 1000 := by have := HL.out.1; have := HLN.out; omega
  have HJL := Lib.hid hJl
  clear hm hJl
  have HA3 := Lib.hid ((HA1.out.below hb3).more hb3.size)
  clear hown3 hown4 hg3 hb3 HO2 HB2 HR7b hs2 HR6 HR7 HBN
  have HJM : Hid (∀ t ∈ I ++ O, t < zs.length) := HM
  have HRES : Hid ((if most < 1 then [] else spotsC (bestL its most (L.map (cand zs its)))) = ((I ++ O).map (spAt zs)).take most.toNat) := by
    rw [Hid]
    have hML : ((L.map (cand zs its)).length : Int) ≤ (zs.length : Int) := by rw [HO.out.len]; exact Int.le_refl _
    by_cases h : most < 1
    · rw [if_pos h, show most.toNat = 0 by omega, List.take_zero]
    · rw [if_neg h, best_eq (big := (zs.length : Int)) (by omega) hML, HSP.out, ← List.map_append]
      unfold spotsC
      rw [List.map_take, List.map_map]
      rfl
  generalize I ++ O = J at *
  obtain ⟨mt, hmt⟩ : ∃ mt, most.toNat = mt := ⟨_, rfl⟩
  rw [hmt] at HRES
  go_wp2
  go_loopw [27, 9] (fun i v wr => ∃ k : Nat, k ≤ m ∧ i = .int .i64 k ∧ Hid (wr.ownsRow W3.heap.size 37 3 v (min mt k) (cellsS (((J.map (spAt zs)).take k).take mt))) ∧ Below W3.heap.size W3 wr) (fun i _ _ => m - (intOf i).toNat)
  case atStart => exact ⟨0, Nat.zero_le _, rfl, by rw [Nat.min_zero]; simpa [Hid, cellsS] using World.ownsRow_nil _ _ _ _, Below.refl _ _⟩
  case round =>
    obtain ⟨k, hk, rfl, HOW, hbel⟩ := hrel
    have hsz := hbel.size
    by_cases hlt0 : k < m
    · have hlt : k < J.length := by have := HJL.out; omega
      obtain ⟨g6, rfl, _, hg6⟩ := ownPos HO3.out (by omega)
      have hc : wr.cell? ⟨g6, k, none⟩ = some (.int .i64 (J[k] : Int)) := by
        have h := HO3.out.cellAt k (by omega)
        rw [rowN_get hlt] at h
        exact (hbel.cell (p := ⟨g6, k, none⟩) hg6).trans h
      have htn : J[k] < zs.length := HJM.out _ (List.getElem_mem hlt)
      obtain ⟨A9, c9, rfl, _, _⟩ := ownSlice HOW.out
      have HTK : Hid (((J.map (spAt zs)).take (k + 1)) = (J.map (spAt zs)).take k ++ [spAt zs J[k]]) := take_next hlt
      have HLK : Hid (((J.map (spAt zs)).take k).length = k) := by rw [Hid, List.length_take, List.length_map]; omega
      obtain ⟨bS, oS, rfl, hbS, y0, y1, y2⟩ := (HA3.out.below hbel) J[k] _ (spAt_lt htn)
      have ht1 : J[k] < n := by have := HN.out; omega
      generalize J[k] = t at *
      generalize spAt zs t = s at *
      generalize (J.map (spAt zs)).take k = Tk at *
      have s1 : (k : Int) < (m : Int) := by omega
      have s2 : (0 : Int) ≤ (k : Int) := by omega
      have s3 : ((k : Int)).toNat = k := Int.toNat_natCast k
      have s4 : (t : Int) < (n : Int) := by omega
      have s5 : (0 : Int) ≤ (t : Int) := by omega
      have s6 : ((t : Int)).toNat = t := Int.toNat_natCast t
      by_cases hmk : k < mt
      · have hmin : min mt k = k := by omega
        rw [hmin] at HOW ⊢
        have hl1 : (k : Int) < most := by omega
        have HT : Hid (cellsS (((J.map (spAt zs)).take (k + 1)).take mt) = cellsS (Tk.take mt) ++ encS s) := by
          rw [Hid, HTK.out, List.take_of_length_le (by rw [List.length_append, HLK.out]; simp; omega), List.take_of_length_le (by rw [HLK.out]; omega), cellsS_snoc]
        obtain ⟨⟨sa, sb⟩, sc⟩ := s
        unfold encS at HT
        simp only at y0 y1 y2 HT
        clear HTK hmt
        go_wp2_with (at_builtin; refine wpList_append_lies _ rfl _ _ 22 rfl W3.heap.size 37 i1 _ 3 24 Try.underlying22 hp0 hp1 hp2 hp3 rfl (by decide) _ k (cellsS (Tk.take mt)) rfl (HOW.out.alloc _) ⟨wr.heap.size, 0, none⟩ 1 1 [.int .u64 sa, .int .u64 sb, .int .i64 sc] rfl rfl (World.news_of_block (cs := #[.int .u64 sa, .int .u64 sb, .int .i64 sc]) (t := 37) (fr := (0, 0)) (heap_alloc_new wr _)) (by simp [Value.oneCell']) (by decide) (by unfold maxLen; omega) (by omega) (by simp; omega) (wr.heap.size + 1) (by simp) ?_; intro g cap W5 hown5 hgrow hat hlt5)
        have hb5 := ownBase (HOW.out.alloc (.cells #[.int .u64 sa, .int .u64 sb, .int .i64 sc] 37)) (hbel.alloc hbel.size (.cells #[.int .u64 sa, .int .u64 sb, .int .i64 sc] 37)) (Nat.le_refl _) (by simp; omega) hgrow
        rw [← HT.out] at hown5
        have HOF : Hid (W5.ownsRow W3.heap.size 37 3 (.slice (some ⟨g, 0, none⟩) (k + 1) cap) (min mt (k + 1)) (cellsS (((J.map (spAt zs)).take (k + 1)).take mt))) := by rw [Hid, show min mt (k + 1) = k + 1 by omega]; exact hown5
        have HB5 := Lib.hid hb5
        clear hgrow hat hlt5 hown5 hb5 hbel y0 y1 y2 hc hmin
        go_wp2
        go_roundw
        case rel => exact ⟨k + 1, by omega, by go_num, HOF, HB5.out⟩
        case measure => simp [intOf]; omega
      · have hmin : min mt k = mt := by omega
        rw [hmin] at HOW ⊢
        have hl1 : ¬ (mt : Int) < most := by omega
        have hl2 : decide ((mt : Int) < most) = false := by simpa using hl1
        have HT : Hid (cellsS (((J.map (spAt zs)).take (k + 1)).take mt) = cellsS (Tk.take mt)) := by
          rw [Hid, HTK.out, List.take_append_of_le_length (by rw [HLK.out]; omega)]
        have HOF : Hid (wr.ownsRow W3.heap.size 37 3 (.slice A9 mt c9) (min mt (k + 1)) (cellsS (((J.map (spAt zs)).take (k + 1)).take mt))) := by rw [Hid, show min mt (k + 1) = mt by omega, HT.out]; exact HOW.out
        have HB5 := Lib.hid hbel
        clear HTK hmt y0 y1 y2 hbel
        go_wp2
        go_roundw
        case rel => exact ⟨k + 1, by omega, by go_num, HOF, HB5.out⟩
        case measure => simp [intOf]; omega
    · obtain rfl : k = m := by omega
      have hJk := HJL.out
      have hfl : ((J.map (spAt zs)).take k).take mt = (J.map (spAt zs)).take mt := by rw [List.take_of_length_le (l := J.map (spAt zs)) (by simp; omega)]
      have hown2 : wr.ownsRow W3.heap.size 37 3 u9 ((J.map (spAt zs)).take mt).length (cellsS ((J.map (spAt zs)).take mt)) := by
        have h := HOW.out
        rw [hfl] at h
        rw [List.length_take, List.length_map, hJk]
        exact h
      obtain ⟨A9, c9, rfl, h1, h2⟩ := ownSlice hown2
      clear hJk hfl
      go_wp2
      go_ret
      refine ⟨_, HO.out, A9, c9, ?_, ?_, ?_, h2, HB.out.trans ((HB3.out.trans (hbel.mono HB3.out.size)).mono HB.out.size)⟩
      · rw [HRES.out]; rfl
      · rw [HRES.out]; exact rdS_own hown2
      · rw [HRES.out]; exact h1

end Go.Proofs.Ytlgkdonaplejdaa
