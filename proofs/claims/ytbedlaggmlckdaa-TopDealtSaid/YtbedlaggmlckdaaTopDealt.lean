/- TopDealt, the walk of the law: an order that is drawn, written as numbers, and read, is the order; the order that undoes it leads back to where all began. -/
import Derived.Test.YtbedlaggmlckdaaTopMix
import Derived.Test.YtbedlaggmlckdaaRngBack
namespace Go.Proofs.Ytbedlaggmlckdaa
open Go.RowKit

/-- A row of numbers lies in block b, from its beginning on. -/
def RowAt (w : World) (b : Nat) (S : List Int) : Prop := ∀ j z, S[j]? = some z → w.cell? ⟨b, j, none⟩ = some (.int .i64 z) ∧ w.frozen? ⟨b, j, none⟩ = false
theorem RowAt.of_own {w : World} {base b n c : Nat} {S : List Int} (h : w.ownsRow base 3 1 (.slice (some ⟨b, 0, none⟩) n c) n (S.map (Value.int .i64))) : RowAt w b S := by
  intro j z hj
  have hjl : j < S.length := (List.getElem?_eq_some_iff.1 hj).1
  have hl : S.length = n := by simpa using h.1
  refine ⟨?_, h.frozenAt j⟩
  rw [h.cellAt j (by omega), List.getElem?_map, hj]
  rfl
theorem RowAt.touch {w w' : World} {b c : Nat} {S : List Int} (h : RowAt w b S) (hT : Touch c w w') (hne : b ≠ c) : RowAt w' b S := fun j z hj =>
  ⟨(hT.2.1 ⟨b, j, none⟩ hne).trans (h j z hj).1, (hT.2.2.1 _).trans (h j z hj).2⟩
theorem RowAt.store {w : World} {b : Nat} {S : List Int} (h : RowAt w b S) (q : Nat) (z : Int) : RowAt (w.setCell ⟨b, q, none⟩ (.int .i64 z)) b (S.set q z) := by
  intro j x hj
  rw [List.getElem?_set] at hj
  by_cases e : q = j
  · subst e
    rw [if_pos rfl] at hj
    by_cases hl : q < S.length
    · rw [if_pos hl] at hj
      injection hj with hj
      subst hj
      obtain ⟨h1, h2⟩ := h q _ (List.getElem?_eq_getElem hl)
      exact ⟨World.cell?_setCell_same _ _ _ h1, by simpa using h2⟩
    · rw [if_neg hl] at hj
      cases hj
  · rw [if_neg e] at hj
    obtain ⟨h1, h2⟩ := h j x hj
    exact ⟨(World.cell?_setCell_other _ _ _ _ (fun h => e (by cases h; rfl))).trans h1, by simpa using h2⟩
theorem RdAt.setOther {w : World} {b c : Nat} {s : ByteArray} {y : Nat} (h : RdAt w b s y) (hne : c ≠ b) (o : Nat) (v : Value) : RdAt (w.setCell ⟨c, o, none⟩ v) b s y := by
  have nb : ∀ o', (⟨c, o, none⟩ : Addr) ≠ ⟨b, o', none⟩ := fun o' e => hne (by injection e)
  exact ⟨(World.cell?_setCell_other _ _ _ _ (nb 0)).trans h.1, (World.cell?_setCell_other _ _ _ _ (nb 1)).trans h.2.1, by simpa using h.2.2.1, by simpa using h.2.2.2⟩

/-- The order that undoes another one, up to place k. -/
def Undo (n : Nat) (vs : List Nat) (k : Nat) (S : List Int) : Prop := S.length = n ∧ ∀ j, j < k → S.getD (vs.getD j 0) 0 = (j : Int)
theorem Undo.step {n : Nat} {vs : List Nat} {k : Nat} {S : List Int} (h : Undo n vs k S) (hk : k < n) (hv : ∀ j, j < n → vs.getD j 0 < n) (hd : ∀ i j, i < n → j < n → vs.getD i 0 = vs.getD j 0 → i = j) :
    Undo n vs (k + 1) (S.set (vs.getD k 0) (k : Int)) := by
  refine ⟨by rw [List.length_set, h.1], fun j hj => ?_⟩
  rw [List.getD_eq_getElem?_getD, List.getElem?_set]
  by_cases e : vs.getD k 0 = vs.getD j 0
  · have hkj : k = j := hd k j hk (by omega) e
    subst hkj
    rw [if_pos rfl, if_pos (by rw [h.1]; exact hv k hk)]
    rfl
  · rw [if_neg e, ← List.getD_eq_getElem?_getD]
    have hjk : j < k := by
      rcases Nat.lt_or_ge j k with hlt | hge
      · exact hlt
      · have : j = k := by omega
        subst this
        exact absurd rfl e
    exact h.2 j hjk
theorem Undo.zero (n : Nat) (vs : List Nat) (S : List Int) (h : S.length = n) : Undo n vs 0 S := ⟨h, fun j hj => by omega⟩

/-- The order in natural numbers. -/
theorem each_nats {n : Nat} {L : List Int} (h : Each n L) : ∃ vs : List Nat, vs.length = n ∧ (∀ k (h1 : k < L.length) (h2 : k < vs.length), L[k] = (vs[k] : Int)) ∧
    (∀ j, j < n → vs.getD j 0 < n) ∧ (∀ i j, i < n → j < n → vs.getD i 0 = vs.getD j 0 → i = j) := by
  obtain ⟨h1, h2, h3⟩ := h
  have key : ∀ k, k < n → ∃ m : Nat, m < n ∧ L.getD k 0 = (m : Int) ∧ (L.map Int.toNat).getD k 0 = m := by
    intro k hk
    obtain ⟨m, hm, he⟩ := h2 k hk
    refine ⟨m, hm, he, ?_⟩
    rw [List.getD_eq_getElem?_getD, List.getElem?_map]
    rw [List.getD_eq_getElem?_getD] at he
    rw [List.getElem?_eq_getElem (by omega)] at he ⊢
    simp only [Option.getD_some, Option.map_some] at he ⊢
    omega
  refine ⟨L.map Int.toNat, by rw [List.length_map, h1], fun k hk1 hk2 => ?_, fun j hj => ?_, fun i j hi hj he => ?_⟩
  · obtain ⟨m, hm, he, _⟩ := key k (by omega)
    rw [List.getD_eq_getElem?_getD, List.getElem?_eq_getElem hk1] at he
    simp only [Option.getD_some] at he
    rw [List.getElem_map, he]
    simp
  · obtain ⟨m, hm, _, he⟩ := key j hj
    omega
  · obtain ⟨a, _, ha, ha2⟩ := key i hi
    obtain ⟨b, _, hb, hb2⟩ := key j hj
    exact h3 i j hi hj (by rw [ha, hb]; omega)

set_option maxRecDepth 100000 in
set_option maxHeartbeats 8000000 in
theorem TopDealt_walk (x : BitVec 64) (many : Int) (w : World) :
    Calls Try.prog 8 #[.int .u64 x.toNat, .int .i64 many] w fun e w' => e = .returned (.bool true) ∧ Below w.heap.size w w' := by
  obtain ⟨i0, hi0, hz0, hz1, hz2⟩ := info_parts info_int
  have HP := Lib.hid (fun w => Perm_any x many w)
  have HE := Each.perm x (clampP many)
  have hpl := permL_length x (clampP many)
  generalize permL x (clampP many) = L at *
  generalize x.toNat = X at *
  obtain ⟨n, hn, hC, hcase⟩ := clampP_cases many
  rw [hC] at hpl HE
  clear hC
  obtain ⟨vs, hvl, hlv, hvn, hvd⟩ := each_nats HE
  have HLN := Lib.hid hpl
  have HVL := Lib.hid hvl
  have HLV := Lib.hid hlv
  have HVN := Lib.hid hvn
  have HVD := Lib.hid hvd
  clear hpl hvl hlv hvn hvd HE
  have hb8 : i0.bytes * n ≤ 281474976710656 := by rw [hz2]; omega
  have hml : n ≤ maxLen := by unfold maxLen; omega
  have hn0 : (0 : Int) ≤ (n : Int) := by omega
  have hn4 : (n : Int) ≤ 4096 := by omega
  go_enter Try.func8, Try.ntmps8
  go_wp2_with fail
  refine (begins2_any _).mono ?_
  rintro e w1 ⟨rfl, hb1⟩
  go_wp2_with fail
  refine (HP.out _).mono ?_
  rintro e w2 ⟨P, c, rfl, hr, hb2⟩
  have hB2 := Below.next hb1 hb2
  clear hb1 hb2 HP
  rw [HLN.out]
  rcases hcase with ⟨h2, h3⟩ | rfl | ⟨h2, h3⟩
  case' inl =>
    have hne : ((n : Int) != 0) = false := by simp [h3]
    clear h3
  case' inr.inr =>
    have hne : ((n : Int) != 4096) = false := by simp [h3]
    clear h3
  all_goals
    go_wp2
    go_loopw [6, 28] (fun v i wr => ∃ (k : Nat) (u : ByteArray), k ≤ n ∧ i = .int .i64 k ∧ v = .string u ∧ u.size ≤ 10 * k ∧ Hid (u = bs (numsB (vs.take k))) ∧ Below w2.heap.size w2 wr)
      (fun _ i _ => n - (intOf i).toNat)
    case atStart => exact ⟨0, _, by omega, rfl, rfl, Nat.le_refl _, by simp [Hid, numsB, bs], Below.refl _ _⟩
    case round =>
      obtain ⟨k, u, hk, rfl, rfl, hu, HU, hbel⟩ := hrel
      by_cases hlt : k < n
      · have hlv : k < vs.length := by have := HVL.out; omega
        have hlL : k < L.length := by have := HLN.out; omega
        obtain ⟨b, off, rfl, hbb, hc⟩ := (hr.below hbel).at_ hlL
        rw [HLV.out k hlL hlv] at hc
        have hvb : vs[k] < n := by
          have := HVN.out k hlt
          rw [List.getD_eq_getElem?_getD, List.getElem?_eq_getElem hlv] at this
          exact this
        have HT := Lib.hid (take_nums vs k hlv)
        have HN := Lib.hid (fun w => litNum_any vs[k] w (by omega))
        have hbl : (bs (bytesN vs[k])).size ≤ 10 := by rw [bs_size]; exact bytesN_length _
        generalize bs (bytesN vs[k]) = nb at *
        generalize vs[k] = m at *
        have hkz : (k : Int) < (n : Int) := by omega
        have hm0 : (0 : Int) ≤ (m : Int) := by omega
        have hm4 : (m : Int) ≤ 4096 := by omega
        go_wp2_with fail
        refine (HN.out _).mono ?_
        rintro e w3 ⟨rfl, hb⟩
        have hB3 := hbel.trans (hb.mono hbel.size)
        clear hb hbel
        go_wp2
        go_roundw
        case rel => exact ⟨k + 1, u ++ nb, by omega, by go_num, rfl, by rw [ByteArray.size_append]; omega, by rw [Hid, HT.out, ← HU.out], hB3⟩
        case measure => simp [intOf]; omega
      · obtain rfl : k = n := by omega
        have HU2 : Hid (u = bs (numsB (vs.drop 0))) := by
          rw [Hid, HU.out, List.take_of_length_le (by have := HVL.out; omega), List.drop_zero]
        have HN5 : Hid (vs.length ≤ 5000) := by rw [Hid]; have := HVL.out; omega
        clear HU hu
        go_wp2_with fail
        refine (New_any u _).mono ?_
        rintro e w3 ⟨rfl, hrd, hsz, hb⟩
        have hB3 := hbel.trans (hb.mono hbel.size)
        have hge := hbel.size
        rw [HU2.out] at hrd
        clear hb hbel HU2
        generalize wr.heap.size = b1 at *
        go_wp2_with (at_make; refine wpList_make_full _ rfl _ _ _ rfl w3.heap.size 3 i0 (.int .i64 0) 1 Try.underlying28 hi0 hz0 hz1 _ _ _ _ k rfl rfl rfl rfl hb8 hml (Nat.le_refl _) ?_; intro w4 hown hgr)
        have hbel4 : Below w3.heap.size w3 w4 := (Below.refl _ _).grown hgr (Nat.le_refl _) (fun _ h => by cases h)
        have hrow := RowAt.of_own (made_ints hown)
        have hrd4 := hrd.below hbel4 hrd.block
        have hB4 := hB3.trans (hbel4.mono hB3.size)
        rw [hsz] at hrow
        clear hgr hown hbel4 hrd hB3 hsz hi0 hz0 hz1 hz2 hb8 hml
        go_loopw [47] (fun i wr => ∃ (j : Nat) (S : List Int), j ≤ k ∧ i = .int .i64 j ∧ RdAt wr b1 (bs (numsB (vs.drop j))) 0 ∧ RowAt wr (b1 + 1) S ∧ Hid (Undo k vs j S) ∧ Below w2.heap.size w2 wr)
          (fun i _ => k - (intOf i).toNat)
        case atStart => exact ⟨0, List.replicate k 0, by omega, rfl, hrd4, hrow, Undo.zero _ _ _ List.length_replicate, hB4⟩
        case round =>
          obtain ⟨j, S, hj, rfl, hrd, hrwJ, HS, hbel⟩ := hrel
          by_cases hlt : j < k
          · have hlv : j < vs.length := by have := HVL.out; omega
            have hlL : j < L.length := by have := HLN.out; omega
            obtain ⟨b, off, rfl, hbb, hc⟩ := (hr.below hbel).at_ hlL
            rw [HLV.out j hlL hlv] at hc
            have hvj : vs.getD j 0 = vs[j] := by
              rw [List.getD_eq_getElem?_getD, List.getElem?_eq_getElem hlv]
              rfl
            have hvb := HVN.out j hlt
            have HS2 := Lib.hid (HS.out.step hlt HVN.out HVD.out)
            have HN := Lib.hid (Num_any b1 _ 0 wr hrd (numsB_size vs j HN5.out))
            rw [hvj] at hvb HS2
            rw [step_nums' vs j hlv (by omega)] at HN
            have hSl := HS.out.1
            have hbs : vs[j] < S.length := by omega
            obtain ⟨z, hz⟩ : ∃ z, S[vs[j]]? = some z := ⟨S[vs[j]], List.getElem?_eq_getElem hbs⟩
            generalize vs[j] = m at *
            have HZ := Lib.hid hz
            clear hz hSl hvj hrd HS hbs
            have hkz : (j : Int) < (k : Int) := by omega
            have hj0 : (0 : Int) ≤ (j : Int) := by omega
            have hmk : (m : Int) < (k : Int) := by omega
            have hm0 : (0 : Int) ≤ (m : Int) := by omega
            go_wp2_with fail
            refine HN.out.mono ?_
            rintro e w5 ⟨rfl, hrd2, hT⟩
            have hrow2 := hrwJ.touch hT (by omega)
            have hc2 := (hT.below hge).cell (p := ⟨b, off + j, none⟩) hbb
            rw [hc] at hc2
            have hB5 := hbel.trans (hT.below hge)
            obtain ⟨hcm, hfm⟩ := hrow2 m z HZ.out
            have hst := hrow2.store m (j : Int)
            have HRD := Lib.hid hrd2
            clear hT hbel hrwJ hc HN hrd2 hrow2
            go_wp2
            go_roundw
            case rel => exact ⟨j + 1, S.set m (j : Int), by omega, by go_num, HRD.out.setOther (by omega) _ _, hst, HS2, hB5.setCell (by show w2.heap.size ≤ b1 + 1; omega) _⟩
            case measure => simp [intOf]; omega
          · obtain rfl : j = k := by omega
            have hr0 : RdAt wr b1 (bs []) 0 := by
              rw [List.drop_eq_nil_of_le (by have := HVL.out; omega)] at hrd
              exact hrd
            clear hrd
            have HW := Lib.hid (Why_any b1 (bs []) 0 wr hr0)
            have hLeft := Left_any b1 (bs []) 0 wr hr0
            rw [bs_size] at hLeft
            have HL := Lib.hid hLeft
            clear hLeft hr0
            go_wp2
            go_loop [73] (fun i => ∃ q : Nat, q ≤ j ∧ i = .int .i64 q) (fun i => j - (intOf i).toNat)
            case atStart => exact ⟨0, by omega, rfl⟩
            case round =>
              obtain ⟨q, hq, rfl⟩ := hrel
              by_cases hlt : q < j
              · have hlv : q < vs.length := by have := HVL.out; omega
                have hlL : q < L.length := by have := HLN.out; omega
                obtain ⟨b, off, rfl, hbb, hc⟩ := (hr.below hbel).at_ hlL
                rw [HLV.out q hlL hlv] at hc
                have hvj : vs.getD q 0 = vs[q] := by
                  rw [List.getD_eq_getElem?_getD, List.getElem?_eq_getElem hlv]
                  rfl
                have hvb := HVN.out q hlt
                have hun := HS.out.2 q hlt
                have hSl := HS.out.1
                rw [hvj] at hvb hun
                have hbs : vs[q] < S.length := by omega
                have hcell := (hrwJ vs[q] S[vs[q]] (List.getElem?_eq_getElem hbs)).1
                have hun2 : S[vs[q]] = (q : Int) := by
                  rw [List.getD_eq_getElem?_getD, List.getElem?_eq_getElem hbs] at hun
                  exact hun
                rw [hun2] at hcell
                generalize vs[q] = m at *
                clear hun hun2 hSl hvj hbs
                have hkz : (q : Int) < (j : Int) := by omega
                have hmk : (m : Int) < (j : Int) := by omega
                have hm0 : (0 : Int) ≤ (m : Int) := by omega
                go_wp2
                go_round
                case rel => exact ⟨q + 1, by omega, by go_num⟩
                case measure => simp [intOf]; omega
              · go_wp2_with fail
                refine HL.out.mono ?_
                rintro e w' ⟨rfl, rfl⟩
                go_wp2_with fail
                refine HW.out.mono ?_
                rintro e w' ⟨rfl, rfl⟩
                go_wp2
                go_ret
                exact ⟨rfl, Below.next hB2 hbel⟩

end Go.Proofs.Ytbedlaggmlckdaa
