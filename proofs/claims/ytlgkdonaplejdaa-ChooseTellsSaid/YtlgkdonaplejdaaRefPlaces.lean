/- The document's choice of candidates (ganglionref10): item, places, by contract. -/
import Derived.Test.YtlgkdonaplejdaaRefOrder
namespace Go.Proofs.Ytlgkdonaplejdaa
open Go.RowKit Go.Shelf Go.Sort Go.Lib

theorem grown_same (W : World) : Grown W W := ⟨0, #[], by simp [grow, World.drewN]⟩
set_option maxHeartbeats 1000000 in
theorem refItem_any (A : Option Addr) (zs : List ItT) (c k : Nat) (w : World) {B : Nat} (hA : ItemsAt w B A zs) (hB : B ≤ w.heap.size) (_hl : zs.length ≤ 100000) (_hk : k ≤ 100000) :
    Calls Try.prog 127 #[.slice A zs.length c, .int .i64 k] w fun e w' => e = .returned (itV (itAt zs k)) ∧ Grown w w' := by
  by_cases h : k < zs.length
  · obtain ⟨⟨b, off, rfl, hb, h0, h1, h2⟩, _⟩ := hA k _ (itAt_lt h)
    have hbw : b < w.heap.size := by omega
    generalize itAt zs k = z at *
    obtain ⟨id, ZA, zv, zc, tags⟩ := z
    simp only at h0 h1 h2
    unfold itV
    simp only
    have hkl : (k : Int) < (zs.length : Int) := by omega
    have hk0 : (0 : Int) ≤ (k : Int) := by omega
    have hk1 : (k : Int).toNat = k := Int.toNat_natCast k
    have g0 := fun O => (World.cell?_alloc_lt w O ⟨b, off + k * 3, none⟩ hbw).trans h0
    have g1 := fun O => (World.cell?_alloc_lt w O ⟨b, off + k * 3 + 1, none⟩ hbw).trans h1
    have g2 := fun O => (World.cell?_alloc_lt w O ⟨b, off + k * 3 + 2, none⟩ hbw).trans h2
    go_enter Try.func127, Try.ntmps127
    go_wp2
    exact bodyPost_ret (v := .agg #[.int .u64 id, .slice ZA zv.length zc, .int .u64 tags]) (by simp [results, Try.results127, go_sem]) rfl ⟨rfl, ⟨0, #[_], alloc_eq_grow _ _⟩⟩
  · rw [itAt_ge (by omega)]
    have hkl : ¬ (k : Int) < (zs.length : Int) := by omega
    unfold itV noIt
    simp only
    go_enter Try.func127, Try.ntmps127
    go_wp2
    exact bodyPost_ret (v := .agg #[.int .u64 0, .slice none 0 0, .int .u64 0]) (by simp [results, Try.results127, go_sem]) rfl ⟨rfl, ⟨0, #[_], alloc_eq_grow _ _⟩⟩

/-- Two rows of the call's own, none of which is the other. -/
structure RowsIO (w W : World) (v6 v7 : Value) (I O : List Nat) : Prop where
  r6 : W.ownsRow w.heap.size 3 1 v6 I.length (I.map natV)
  r7 : W.ownsRow w.heap.size 3 1 v7 O.length (O.map natV)
  d67 : ∀ k, v6.ownBlock = some k → v7.ownBlock ≠ some k
  hb : Below w.heap.size w W
section
variable {w W W' : World} {v6 v7 : Value} {I O : List Nat}
theorem RowsIO.later (h : RowsIO w W v6 v7 I O) (hb : Below W.heap.size W W') : RowsIO w W' v6 v7 I O := ⟨own_below h.r6 hb, own_below h.r7 hb, h.d67, h.hb.trans (hb.mono h.hb.size)⟩
theorem RowsIO.put6 (h : RowsIO w W v6 v7 I O) {t g cap : Nat} (ho : W'.ownsRow w.heap.size 3 1 (.slice (some ⟨g, 0, none⟩) (I.length + 1) cap) (I.length + 1) (I.map natV ++ [natV t])) (hg : W.grownBy W' v6.ownBlock) (hat : v6.ownBlock = some g ∨ g = W.heap.size) : RowsIO w W' (.slice (some ⟨g, 0, none⟩) (I.length + 1) cap) v7 (I ++ [t]) O := by
  refine ⟨by rw [List.map_append, List.length_append]; exact ho, own_other h.r7 hg (fun k e e2 => h.d67 k e2 e), ?_, ownBase h.r6 h.hb (Nat.le_refl _) h.hb.size hg⟩
  intro k e e2
  obtain rfl := own_blk k e
  rcases hat with e3 | e3
  · exact h.d67 k e3 e2
  · have := (h.r7.lt k e2).2
    omega
theorem RowsIO.put7 (h : RowsIO w W v6 v7 I O) {t g cap : Nat} (ho : W'.ownsRow w.heap.size 3 1 (.slice (some ⟨g, 0, none⟩) (O.length + 1) cap) (O.length + 1) (O.map natV ++ [natV t])) (hg : W.grownBy W' v7.ownBlock) (hat : v7.ownBlock = some g ∨ g = W.heap.size) : RowsIO w W' v6 (.slice (some ⟨g, 0, none⟩) (O.length + 1) cap) I (O ++ [t]) := by
  refine ⟨own_other h.r6 hg h.d67, by rw [List.map_append, List.length_append]; exact ho, ?_, ownBase h.r7 h.hb (Nat.le_refl _) h.hb.size hg⟩
  intro k e e2
  obtain rfl := own_blk k e2
  rcases hat with e3 | e3
  · exact h.d67 k e e3
  · have := (h.r6.lt k e).2
    omega
end
/-- Is it nearer to the place u than its own distance? -/
def nearP (zs : List SpotT) (its : List ItT) (t u : Nat) : Bool := decide (distT its t u < (spAt zs t).1.1)
theorem nearP_all (zs : List SpotT) (its : List ItT) (t : Nat) (I : List Nat) : nearC its (I.map (cand zs its)) (cand zs its t) = I.any (nearP zs its t) := by
  unfold nearC
  rw [List.any_map]
  congr 1
  funext u
  show decide (distC its (cand zs its u) (cand zs its t) < _) = _
  rw [distC_comm]
  rfl
/-- The two lists of places. -/
def PlacesC (zs : List SpotT) (its : List ItT) (w : World) (e : Ending) (W : World) : Prop :=
  ∃ (L I O : List Nat) (A6 : Option Addr) (c6 : Nat) (A7 : Option Addr) (c7 : Nat), e = .returned (.tuple #[.slice A6 I.length c6, .slice A7 O.length c7]) ∧ OrdTo zs its zs.length L ∧ splitGo its (zs.length : Int) (L.map (cand zs its)) [] [] = (I.map (cand zs its), O.map (cand zs its)) ∧ (∀ t ∈ I ++ O, t < zs.length) ∧ I.length + O.length = zs.length ∧ W.ownsRow w.heap.size 3 1 (.slice A6 I.length c6) I.length (I.map natV) ∧ W.ownsRow w.heap.size 3 1 (.slice A7 O.length c7) O.length (O.map natV) ∧ Below w.heap.size w W
theorem rowN_get {I : List Nat} {j : Nat} (h : j < I.length) : (I.map natV)[j]? = some (.int .i64 (I[j] : Int)) := by
  rw [List.getElem?_map, List.getElem?_eq_getElem h]
  rfl

set_option maxRecDepth 100000 in
set_option maxHeartbeats 4000000 in
theorem refPlaces_any (A : Option Addr) (zs : List SpotT) (ca : Nat) (I0 : Option Addr) (its : List ItT) (ci : Nat) (w : World) (hA : RdS w w.heap.size A zs) (hI : ItemsAt w w.heap.size I0 its) (hl : zs.length ≤ 1000 ∧ its.length ≤ 1000) :
    Calls Try.prog 75 #[.slice A zs.length ca, .slice I0 its.length ci] w (PlacesC zs its w) := by
  have mixed : Try.prog.follows .mixedOrders = true := by kernel_rfl
  obtain ⟨i2, hq0, hq1, hq2, hq3⟩ := info_parts info_int
  have HL := Lib.hid hl
  have HOR := Lib.hid (refOrder_any its A zs ca w hA hl.1)
  have HA := Lib.hid hA
  have HI := Lib.hid hI
  clear hA hI hl
  go_enter Try.func75, Try.ntmps75
  go_wp2_with fail
  refine Calls.mono HOR.out ?_
  rintro e w0 ⟨L, A1, c1, rfl, hO, ho1, hb0⟩
  have HO := Lib.hid hO
  have HR := Lib.hid ho1
  have HB0 := Lib.hid hb0
  have HA0 := Lib.hid ((HA.out.below hb0).more hb0.size)
  have HI0 := Lib.hid ((HI.out.below hb0).more hb0.size)
  have hLn : L.length = zs.length := hO.len
  have HLN := Lib.hid hLn
  clear hO ho1 hb0 HOR HA HI hLn
  obtain ⟨n, hn⟩ : ∃ n, zs.length = n := ⟨_, rfl⟩
  have HN := Lib.hid hn
  rw [hn] at HLN
  rw [hn] at HR ⊢
  clear hn
  go_wp2
  go_loopw [16, 6, 7] (fun i v6 v7 wr => ∃ (k : Nat) (I O : List Nat), k ≤ n ∧ i = .int .i64 k ∧ Hid (splitGo its (zs.length : Int) ((L.drop k).map (cand zs its)) (I.map (cand zs its)) (O.map (cand zs its)) = splitGo its (zs.length : Int) (L.map (cand zs its)) [] []) ∧ Hid (I.length + O.length = k ∧ ∀ t ∈ I ++ O, t < zs.length) ∧ Hid (RowsIO w0 wr v6 v7 I O)) (fun i _ _ _ => n - (intOf i).toNat)
  case atStart => exact ⟨0, [], [], Nat.zero_le _, rfl, by simp [Hid], by simp [Hid], ⟨World.ownsRow_nil _ _ _ _, World.ownsRow_nil _ _ _ _, fun k e => (by cases e), Below.refl _ _⟩⟩
  case round =>
    obtain ⟨k, I, O, hk, rfl, HS, HC, HRW⟩ := hrel
    have hnn := HN.out
    have hl1 := HL.out.1
    have hsz := HRW.out.hb.size
    by_cases hlt : k < n
    · have hkL : k < L.length := by have := HLN.out; omega
      have hkl : (k : Int) < (n : Int) := by omega
      have hk0 : (0 : Int) ≤ (k : Int) := by omega
      have hkn : ((k : Int)).toNat = k := Int.toNat_natCast k
      obtain ⟨g1, rfl, hg1, hg2⟩ := ownPos HR.out (by omega)
      have hcL : wr.cell? ⟨g1, k, none⟩ = some (.int .i64 (L[k] : Int)) := by
        have h := HR.out.cellAt k (by omega)
        rw [rowN_get hkL] at h
        exact (HRW.out.hb.cell (p := ⟨g1, k, none⟩) hg2).trans h
      have htn : L[k] < n := by have := HO.out.lt _ (List.getElem_mem hkL); omega
      have HST : Hid (L.drop k = L[k] :: L.drop (k + 1)) := List.drop_eq_getElem_cons hkL
      generalize L[k] = t at *
      have hIk : I.length ≤ 1000 := by have := HC.out.1; omega
      have hOk : O.length ≤ 1000 := by have := HC.out.1; omega
      obtain ⟨A6, c6, rfl, _, _⟩ := ownSlice HRW.out.r6
      obtain ⟨W1, hW1⟩ : ∃ W, W = wr := ⟨_, rfl⟩
      subst hW1
      go_wp2
      go_loopw [22, 10] (fun i v wq => ∃ (j : Nat) (b : Bool), j ≤ I.length ∧ i = .int .i64 j ∧ v = .bool b ∧ Hid (b = !((I.take j).any (nearP zs its t))) ∧ Below W1.heap.size W1 wq) (fun i _ _ => I.length - (intOf i).toNat)
      case atStart => exact ⟨0, true, Nat.zero_le _, rfl, rfl, by simp [Hid], Below.refl _ _⟩
      case round =>
        obtain ⟨j, b, hj, rfl, rfl, HBJ, hbq⟩ := hrel
        by_cases hjc : j < I.length
        · obtain ⟨g6, rfl, hg6, hg6w⟩ := ownPos HRW.out.r6 (by omega)
          have hcI : wr.cell? ⟨g6, j, none⟩ = some (.int .i64 (I[j] : Int)) := by
            have h := HRW.out.r6.cellAt j (by omega)
            rw [rowN_get hjc] at h
            exact (hbq.cell (p := ⟨g6, j, none⟩) hg6w).trans h
          have HNX : Hid ((I.take (j + 1)).any (nearP zs its t) = ((I.take j).any (nearP zs its t) || decide (distT its t I[j] < (spAt zs t).1.1))) := by
            rw [Hid, List.take_succ_eq_append_getElem hjc, List.any_append]
            simp [nearP]
          have hun : I[j] < n := by have := HC.out.2 I[j] (List.mem_append_left _ (List.getElem_mem hjc)); omega
          unfold distT at HNX
          have HW9 := Lib.hid (HRW.out.hb.trans (hbq.mono hsz))
          obtain ⟨bS, oS, rfl, hbS, y0, y1, y2⟩ := (HA0.out.below HW9.out) t _ (spAt_lt (show t < zs.length by omega))
          have s1 : (j : Int) < (I.length : Int) := by omega
          have s2 : (0 : Int) ≤ (j : Int) := by omega
          have s3 : ((j : Int)).toNat = j := Int.toNat_natCast j
          have s4 : (t : Int) < (n : Int) := by omega
          have s5 : (0 : Int) ≤ (t : Int) := by omega
          have s6 : ((t : Int)).toNat = t := Int.toNat_natCast t
          have HIG := Lib.hid (fun nn os => (HI0.out.below HW9.out).below ((show Below wr.heap.size wr (grow (wr.drewN nn) os) from (show Grown wr (grow (wr.drewN nn) os) from ⟨nn, os, rfl⟩).below).mono HW9.out.size))
          have hz1 := fun nn os => refItem_any I0 its ci t (grow (wr.drewN nn) os) (HIG.out nn os) (by have h1 := HW9.out.size; have h2 := (show Grown wr (grow (wr.drewN nn) os) from ⟨nn, os, rfl⟩).below.size; omega) (by have := HL.out.2; omega) (by omega)
          have hz2 := fun nn os => refItem_any I0 its ci I[j] (grow (wr.drewN nn) os) (HIG.out nn os) (by have h1 := HW9.out.size; have h2 := (show Grown wr (grow (wr.drewN nn) os) from ⟨nn, os, rfl⟩).below.size; omega) (by have := HL.out.2; omega) (by omega)
          have hv1 := fun nn os => (HIG.out nn os).vec t
          have hv2 := fun nn os => (HIG.out nn os).vec I[j]
          unfold itV at hz1 hz2
          generalize I[j] = u at *
          generalize itAt its t = z1 at *
          generalize itAt its u = z2 at *
          generalize spAt zs t = s at *
          obtain ⟨zi1, zA1, zv1, zc1, zt1⟩ := z1
          obtain ⟨zi2, zA2, zv2, zc2, zt2⟩ := z2
          obtain ⟨⟨sa, sb⟩, sc⟩ := s
          simp only at hz1 hz2 hv1 hv2 HNX y0 y1 y2
          obtain ⟨dd, hdd⟩ : ∃ dd, satN (distN zv1 zv2 (max zv1.length zv2.length)) = dd := ⟨_, rfl⟩
          rw [hdd] at HNX
          have HD := Lib.hid (fun nn os => (by
            have h := refDist_any zA1 zA2 zv1 zv2 zc1 zc2 (grow (wr.drewN nn) os) (hv1 nn os).rd (hv2 nn os).rd (hv1 nn os).len (hv2 nn os).len (hv1 nn os).all (hv2 nn os).all
            rw [hdd] at h
            exact h.mono fun e w' ⟨he, hw⟩ => ⟨he, hw ▸ grown_same _⟩ : Calls Try.prog 86 #[.slice zA1 zv1.length zc1, .slice zA2 zv2.length zc2] (grow (wr.drewN nn) os) fun e w' => e = .returned (.int .u64 dd) ∧ Grown (grow (wr.drewN nn) os) w'))
          have HZ1 := Lib.hid (fun nn os => Calls.grown_of (hz1 nn os))
          have HZ2 := Lib.hid (fun nn os => Calls.grown_of (hz2 nn os))
          have HD2 := Lib.hid (fun nn os => Calls.grown_of (HD.out nn os))
          clear hz1 hz2 hv1 hv2 hdd
          have g0 := fun nn os => cell_grown (n := nn) (os := os) (a := ⟨bS, oS + t * 3, none⟩) (Nat.lt_of_lt_of_le hbS HW9.out.size) y0
          have HQ := Lib.hid hbq
          have hcI2 := hcI
          clear y0 y1 y2 hbq
          go_upto_region 9 with (fail)
          clear hcI hcI2
          cases b
          · clear g0
            go_big_quiet (fail)
            have HB9 := Lib.hid (HQ.out.trans ((below_draws wr nq wr.heap.size).mono HQ.out.size))
            go_wp2
            go_roundw
            case rel => exact ⟨j + 1, false, by omega, by go_num, rfl, by rw [Hid, HNX.out]; have := HBJ.out; revert this; cases ((I.take j).any (nearP zs its t)) <;> simp, HB9.out⟩
            case measure => simp [intOf]; omega
          · obtain ⟨c, hc⟩ : ∃ c, decide (sa ≤ dd) = c := ⟨_, rfl⟩
            have HNY : Hid (c = !((I.take (j + 1)).any (nearP zs its t))) := by
              rw [Hid, HNX.out, ← hc]
              have := HBJ.out
              revert this
              cases ((I.take j).any (nearP zs its t))
              · intro _
                rw [Bool.false_or]
                by_cases h : sa ≤ dd
                · rw [decide_eq_true h, decide_eq_false (by omega)]; rfl
                · rw [decide_eq_false h, decide_eq_true (by omega)]; rfl
              · simp
            have hf1 : ∀ w : World, (Instr.field 32 (.agg #[.int .u64 zi1, .slice zA1 zv1.length zc1, .int .u64 zt1]) 1).run Try.prog w = .ok (.slice zA1 zv1.length zc1) w := fun _ => by kernel_rfl
            have hf2 : ∀ w : World, (Instr.field 32 (.agg #[.int .u64 zi2, .slice zA2 zv2.length zc2, .int .u64 zt2]) 1).run Try.prog w = .ok (.slice zA2 zv2.length zc2) w := fun _ => by kernel_rfl
            refine wp_region_quiet_grown (by assumption) (by kernel_rfl) ?_
            repeat (go_big_quiet_step ((first | (go_at_call 127; with_reducible first | exact HZ1.out _ _ | exact HZ2.out _ _) | (go_at_call 86; with_reducible exact HD2.out _ _))))
            refine wpQuiet_nil ?_
            intro _ hw'
            obtain ⟨⟨nq, osq⟩, hw''⟩ := hw'
            subst hw''
            have HB9 := Lib.hid (HQ.out.trans ((show Grown wr (grow (wr.drewN nq) osq) from ⟨nq, osq, rfl⟩).below.mono HQ.out.size))
            clear g0 hc hf1 hf2
            go_wp2
            go_roundw
            case rel => exact ⟨j + 1, c, by omega, by go_num, rfl, HNY.out, HB9.out⟩
            case measure => simp [intOf]; omega
        · obtain rfl : j = I.length := by omega
          have HR2 := Lib.hid (HRW.out.later hbq)
          have hnb : nearC its (I.map (cand zs its)) (cand zs its t) = !b := by rw [nearP_all, HBJ.out, List.take_of_length_le (Nat.le_refl _)]; simp
          have hcut : ¬ ((zs.length : Int) ≤ ((I.map (cand zs its)).length : Int)) := by rw [List.length_map]; have := HC.out.1; omega
          have HSS := HS.out
          rw [HST.out, List.map_cons, splitGo, if_neg hcut, hnb] at HSS
          have HNS : Hid ((b = true → splitGo its (zs.length : Int) ((L.drop (k + 1)).map (cand zs its)) ((I ++ [t]).map (cand zs its)) (O.map (cand zs its)) = splitGo its (zs.length : Int) (L.map (cand zs its)) [] []) ∧ (b = false → splitGo its (zs.length : Int) ((L.drop (k + 1)).map (cand zs its)) (I.map (cand zs its)) ((O ++ [t]).map (cand zs its)) = splitGo its (zs.length : Int) (L.map (cand zs its)) [] [])) := by
            refine ⟨fun h => ?_, fun h => ?_⟩
            · subst h
              rw [List.map_append]
              simpa using HSS
            · subst h
              rw [List.map_append]
              simpa using HSS
          have HC2 : Hid (((I ++ [t]).length + O.length = k + 1 ∧ ∀ x ∈ (I ++ [t]) ++ O, x < zs.length) ∧ (I.length + (O ++ [t]).length = k + 1 ∧ ∀ x ∈ I ++ (O ++ [t]), x < zs.length)) := by
            have h1 := HC.out.1
            have h2 := HC.out.2
            have ht : t < zs.length := by omega
            refine ⟨⟨by simp; omega, fun x hx => ?_⟩, by simp; omega, fun x hx => ?_⟩
            · simp only [List.mem_append, List.mem_singleton] at hx h2
              rcases hx with (h | rfl) | h
              · exact h2 x (.inl h)
              · exact ht
              · exact h2 x (.inr h)
            · simp only [List.mem_append, List.mem_singleton] at hx h2
              rcases hx with h | h | rfl
              · exact h2 x (.inl h)
              · exact h2 x (.inr h)
              · exact ht
          have hszr := HR2.out.hb.size
          clear HSS hnb hcut hbq HBJ
          cases b
          · obtain ⟨A7, c7, rfl, _, _⟩ := ownSlice HR2.out.r7
            go_wp2_with (at_builtin; refine wpList_append_lies _ rfl _ _ 44 rfl w0.heap.size 3 i2 (.int .i64 0) 1 8 Try.underlying44 hq0 hq1 hq2 hq3 rfl (by decide) _ O.length (O.map natV) rfl (HR2.out.r7.alloc _) ⟨wr.heap.size, 0, none⟩ 1 1 [.int .i64 (t : Int)] rfl rfl (World.news_of_block (cs := #[.int .i64 (t : Int)]) (t := 3) (fr := (0, 0)) (heap_alloc_new wr _)) (by simp [Value.oneCell']) (by decide) (by unfold maxLen; omega) (by omega) (by simp; omega) (wr.heap.size + 1) (by simp) ?_; intro g cap W3 hown3 hgrow hat hlt3)
            have HR3 := Lib.hid ((HR2.out.later (below_new3 wr (.cells #[.int .i64 (t : Int)] 3))).put7 (t := t) hown3 hgrow (hat.imp id (fun e => by rw [e]; simp)))
            clear hown3 hgrow hat hlt3
            go_wp2
            go_roundw
            case rel => exact ⟨k + 1, I, O ++ [t], by omega, by go_num, HNS.out.2 rfl, HC2.out.2, HR3.out⟩
            case measure => simp [intOf]; omega
          · go_wp2_with (at_builtin; refine wpList_append_lies _ rfl _ _ 44 rfl w0.heap.size 3 i2 (.int .i64 0) 1 8 Try.underlying44 hq0 hq1 hq2 hq3 rfl (by decide) _ I.length (I.map natV) rfl (HR2.out.r6.alloc _) ⟨wr.heap.size, 0, none⟩ 1 1 [.int .i64 (t : Int)] rfl rfl (World.news_of_block (cs := #[.int .i64 (t : Int)]) (t := 3) (fr := (0, 0)) (heap_alloc_new wr _)) (by simp [Value.oneCell']) (by decide) (by unfold maxLen; omega) (by omega) (by simp; omega) (wr.heap.size + 1) (by simp) ?_; intro g cap W3 hown3 hgrow hat hlt3)
            have HR3 := Lib.hid ((HR2.out.later (below_new3 wr (.cells #[.int .i64 (t : Int)] 3))).put6 (t := t) hown3 hgrow (hat.imp id (fun e => by rw [e]; simp)))
            clear hown3 hgrow hat hlt3
            go_wp2
            go_roundw
            case rel => exact ⟨k + 1, I ++ [t], O, by omega, by go_num, HNS.out.1 rfl, HC2.out.1, HR3.out⟩
            case measure => simp [intOf]; omega
    · obtain rfl : k = n := by omega
      obtain ⟨A6, c6, rfl, _, _⟩ := ownSlice HRW.out.r6
      obtain ⟨A7, c7, rfl, _, _⟩ := ownSlice HRW.out.r7
      have HF : Hid (splitGo its (zs.length : Int) (L.map (cand zs its)) [] [] = (I.map (cand zs its), O.map (cand zs its))) := by
        rw [Hid, ← HS.out, List.drop_eq_nil_of_le (by have := HLN.out; omega)]
        rfl
      go_wp2
      go_ret2
      exact ⟨L, I, O, A6, c6, A7, c7, rfl, HO.out, HF.out, HC.out.2, by have := HC.out.1; omega, own_mono HRW.out.r6 HB0.out.size, own_mono HRW.out.r7 HB0.out.size, HB0.out.trans (HRW.out.hb.mono HB0.out.size)⟩

end Go.Proofs.Ytlgkdonaplejdaa
