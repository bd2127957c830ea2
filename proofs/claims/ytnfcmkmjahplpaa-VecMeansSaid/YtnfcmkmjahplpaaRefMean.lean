/- The document's own answer for Mean. -/
import Derived.Test.YtnfcmkmjahplpaaMean
import Derived.Test.YtnfcmkmjahplpaaOwn
namespace Go.Proofs.Ytnfcmkmjahplpaa
open Go.RowKit Go.Shelf

/-- What the means so far are. -/
def meansTo (rows : List (List Int)) (k : Nat) : List Int := (List.range k).map fun i => wrap32 (colS rows i / (rows.length : Int))
theorem meansTo_succ (rows : List (List Int)) (k : Nat) : meansTo rows (k + 1) = meansTo rows k ++ [wrap32 (colS rows k / (rows.length : Int))] := by
  rw [meansTo, List.range_succ, List.map_append]; rfl
theorem meansTo_length (rows : List (List Int)) (k : Nat) : (meansTo rows k).length = k := by simp [meansTo]
theorem meansTo_all (n : Nat) (rows : List (List Int)) : meansTo rows n = meanL n rows := rfl
/-- The sum of a component over the first j vectors. -/
def colTo (hs : List Hdr) (i j : Nat) : Int := colS ((hs.take j).map (·.2.1)) i
theorem colTo_succ (hs : List Hdr) (i j : Nat) (h : j < hs.length) : colTo hs i (j + 1) = wrap64 (colTo hs i j + cpt (hdrAt hs j).2.1 i) := by
  have e := hdrAt_lt h
  rw [List.getElem?_eq_getElem h] at e
  injection e with e
  rw [colTo, List.take_succ_eq_append_getElem h, List.map_append, e]
  exact colS_snoc _ _ _
theorem colTo_all (hs : List Hdr) (i : Nat) : colTo hs i hs.length = colS (rowsOf hs) i := by rw [colTo, List.take_length]; rfl

/-- One vector is not as long as the first. -/
theorem rows_odd {hs : List Hdr} {n : Nat} (h : 0 < hs.length) (hn : (hdrAt hs 0).2.1.length = n) (j : Nat) (hj : j < hs.length) (hx : (hdrAt hs j).2.1.length ≠ n) : ¬ Alike (rowsOf hs) := rows_not h hn ⟨j, hj⟩ hx
theorem rows_even {hs : List Hdr} {n : Nat} (h : 0 < hs.length) (hn : (hdrAt hs 0).2.1.length = n) (hp : ∀ j, j < hs.length → (hdrAt hs j).2.1.length = n) : Alike (rowsOf hs) := by
  refine ⟨fun e => ?_, fun r hr => ?_⟩
  · simp only [rowsOf, List.map_eq_nil_iff] at e
    subst e
    exact absurd h (Nat.lt_irrefl 0)
  · rw [rows_head h, hn]
    obtain ⟨x, hx, rfl⟩ := List.mem_map.1 hr
    obtain ⟨j, hj, rfl⟩ := List.getElem_of_mem hx
    have := hp j hj
    have e := hdrAt_lt hj
    rw [List.getElem?_eq_getElem hj] at e
    injection e with e
    rw [← e] at this
    exact this

set_option maxRecDepth 100000 in
set_option maxHeartbeats 2000000 in
theorem ref_Mean_some (A : Option Addr) (hs : List Hdr) (c n : Nat) (w : World) (hR : Rd hdrV w w.heap.size A hs) (hl : hs.length ≤ 9223372036854775807) (hv : ∀ h ∈ hs, Vec w h.1 h.2.1) (hne : 0 < hs.length)
    (hn : (hdrAt hs 0).2.1.length = n) (hn' : n ≤ 1000000) : Calls Try.prog 9 #[.slice A hs.length c] w (MeanOut (rowsOf hs) w) := by
  have hnz : ((hs.length : Int) == 0) = false := by rw [beq_eq_false_iff_ne]; omega
  have hlz : (0 : Int) < (hs.length : Int) := by omega
  obtain ⟨b0, off0, hA0, hbb0, hc0⟩ := hR 0 _ (hdrAt_lt hne)
  subst hA0
  have HV := Lib.hid hv
  have HR := Lib.hid hR
  clear hv hR
  unfold hdrV at hc0
  rw [hn, Nat.add_zero] at hc0
  have HN := Lib.hid hn
  clear hn
  go_enter Try.func9, Try.ntmps9
  go_wp2
  obtain ⟨i4, hi4, hz4, hy4, hx4⟩ := info_parts info_i32
  go_loopw [4, 18] (fun v i wr => ∃ k : Nat, k ≤ n ∧ i = .int .i64 k ∧ wr.ownsRow w.heap.size 21 1 v k ((meansTo (rowsOf hs) k).map (Value.int .i32)) ∧ Below w.heap.size w wr) (fun _ i _ => n - (intOf i).toNat)
  case atStart => exact ⟨0, Nat.zero_le _, rfl, World.ownsRow_nil w w.heap.size _ 1, Below.refl _ _⟩
  case round =>
    obtain ⟨k, hk, rfl, hown, hbel⟩ := hrel
    have hb1 := hbel.size
    have hc0' := (hbel.cell (p := ⟨b0, off0, none⟩) hbb0).trans hc0
    have HR' := Lib.hid (HR.out.below hbel)
    have hk0 : (0 : Int) ≤ (k : Int) := by omega
    by_cases hlt : k < n
    · have hkn : (k : Int) < (n : Int) := by omega
      go_wp2
      go_loop [6, 23] (fun s j => ∃ m : Nat, m ≤ hs.length ∧ j = .int .i64 m ∧ s = .int .i64 (colTo hs k m)) (fun _ j => hs.length - (intOf j).toNat)
      case atStart => exact ⟨0, Nat.zero_le _, rfl, rfl⟩
      case round =>
        obtain ⟨m, hm, rfl, rfl⟩ := hrel
        have hm0 : (0 : Int) ≤ (m : Int) := by omega
        by_cases hml : m < hs.length
        · have hmz : (m : Int) < (hs.length : Int) := by omega
          obtain ⟨bj, oj, ej, hbj, hcj⟩ := HR'.out m _ (hdrAt_lt hml)
          injection ej with ej
          injection ej with ej1 ej2
          subst ej1
          subst ej2
          unfold hdrV at hcj
          have hvj := HV.out _ (hdrAt_mem hml)
          have hct := Lib.hid (colTo_succ hs k m hml)
          have hodd := Lib.hid (rows_odd hne HN.out m hml)
          obtain ⟨V, hV1⟩ : ∃ V, (hdrAt hs m).1 = V := ⟨_, rfl⟩
          obtain ⟨zs, hV2⟩ : ∃ zs, (hdrAt hs m).2.1 = zs := ⟨_, rfl⟩
          obtain ⟨cv, hV3⟩ : ∃ cv, (hdrAt hs m).2.2 = cv := ⟨_, rfl⟩
          rw [hV1, hV2, hV3] at hcj
          rw [hV1, hV2] at hvj
          rw [hV2] at hct hodd
          clear hV1 hV2 hV3
          by_cases hzn : zs.length = n
          · have hq : ((zs.length : Int) != (n : Int)) = false := by simp [hzn]
            have hkz : k < zs.length := by omega
            obtain ⟨bv, ov, rfl, hbv, hcv0⟩ := hvj.rd k _ (cpt_lt hkz)
            have hcv := (hbel.cell (p := ⟨bv, ov + k, none⟩) hbv).trans hcv0
            have hzb := hvj.all _ (cpt_mem hkz)
            have hkzi : (k : Int) < (zs.length : Int) := by omega
            clear hcv0 hvj hodd
            generalize cpt zs k = z at *
            generalize colTo hs k m = u at *
            go_wp2
            go_round
            case rel => exact ⟨m + 1, by omega, by go_num, by rw [hct.out]⟩
            case measure => simp [intOf]; omega
          · have hq : ((zs.length : Int) != (n : Int)) = true := by simp; omega
            have hNA := Lib.hid (hodd.out hzn)
            clear hodd hct hvj
            go_wp2
            go_ret2
            exact ⟨hbel, .inl ⟨hNA.out, rfl⟩⟩
        · obtain rfl : m = hs.length := by omega
          rw [colTo_all]
          have hQ := Lib.hid (fun w => down_any (colS (rowsOf hs) k) hs.length w (colS_bounds _ _) hlz (by omega))
          have hsn := Lib.hid (meansTo_succ (rowsOf hs) k)
          rw [show (rowsOf hs).length = hs.length from by simp [rowsOf]] at hsn
          generalize colS (rowsOf hs) k = u at *
          generalize u / (hs.length : Int) = qd at *
          go_wp2_with (first
            | (go_at_call 21; refine Calls.mono (hQ.out _) ?_; rintro e w' ⟨rfl, rfl⟩)
            | (at_builtin; refine wpList_append_own _ rfl _ _ 24 rfl w.heap.size 21 i4 (.int .i32 0) 1 4 Try.underlying24 hi4 hz4 hy4 hx4 rfl (by decide) _ _ _ rfl (hown.alloc _) ⟨wr.heap.size, 0, none⟩ 1 1 [.int .i32 (wrap32 qd)] rfl rfl ?c1 ?c2 ?c3 ?c4 ?c5 ?_))
          case c1 =>
            intro j u hj
            match j, hj with
            | 0, hj => simp at hj; subst hj; simp [Addr.add]
          case c2 => intro u hu; simp at hu; subst hu; rfl
          case c3 => unfold maxLen; omega
          case c4 => omega
          case c5 => simp; omega
          intro v' w2 hown2 hgrow _
          have hB := ownBase (hown.alloc (.cells #[.int .i32 (wrap32 qd)] 21)) (hbel.alloc hb1 _) (Nat.le_refl _) (by simp; omega) hgrow
          clear hgrow hown
          go_wp2
          go_roundw
          case rel =>
            refine ⟨k + 1, by omega, by go_num, ?_, hB⟩
            rw [hsn.out, List.map_append]
            exact hown2
          case measure => simp [intOf]; omega
    · have hke : k = n := by omega
      subst hke
      obtain ⟨M, cm, rfl, _, _⟩ := ownSlice hown
      have HO := Lib.hid hown
      clear hown hk hlt
      go_wp2
      go_loop [53] (fun j => ∃ m : Nat, m ≤ hs.length ∧ j = .int .i64 m ∧ Hid (∀ j, j < m → (hdrAt hs j).2.1.length = k)) (fun j => hs.length - (intOf j).toNat)
      case atStart => exact ⟨0, Nat.zero_le _, rfl, fun j hj => absurd hj (Nat.not_lt_zero j)⟩
      case round =>
        obtain ⟨m, hm, rfl, HP⟩ := hrel
        have hm0 : (0 : Int) ≤ (m : Int) := by omega
        by_cases hml : m < hs.length
        · have hmz : (m : Int) < (hs.length : Int) := by omega
          obtain ⟨bj, oj, ej, hbj, hcj⟩ := HR'.out m _ (hdrAt_lt hml)
          injection ej with ej
          injection ej with ej1 ej2
          subst ej1
          subst ej2
          unfold hdrV at hcj
          have hodd := Lib.hid (rows_odd hne HN.out m hml)
          have hnx : (hdrAt hs m).2.1.length = k → Hid (∀ j, j < m + 1 → (hdrAt hs j).2.1.length = k) := fun he j hj => by
            rcases Nat.lt_or_ge j m with h | h
            · exact HP.out j h
            · obtain rfl : j = m := by omega
              exact he
          obtain ⟨V, hV1⟩ : ∃ V, (hdrAt hs m).1 = V := ⟨_, rfl⟩
          obtain ⟨l, hV2⟩ : ∃ l, (hdrAt hs m).2.1.length = l := ⟨_, rfl⟩
          obtain ⟨cv, hV3⟩ : ∃ cv, (hdrAt hs m).2.2 = cv := ⟨_, rfl⟩
          rw [hV1, hV2, hV3] at hcj
          rw [hV2] at hodd hnx
          clear hV1 hV2 hV3 HP
          by_cases hzn : l = k
          · have hnx' := hnx hzn
            subst hzn
            clear hnx hodd
            go_wp2
            go_round
            case rel => exact ⟨m + 1, by omega, by go_num, hnx'⟩
            case measure => simp [intOf]; omega
          · have hq : ((l : Int) != (k : Int)) = true := by simp; omega
            have hNA := Lib.hid (hodd.out hzn)
            clear hodd hnx
            go_wp2
            go_ret2
            exact ⟨hbel, .inl ⟨hNA.out, rfl⟩⟩
        · obtain rfl : m = hs.length := by omega
          have hAl := Lib.hid (rows_even hne HN.out HP.out)
          have hhd := Lib.hid ((rows_head hne).trans HN.out)
          clear HP
          go_wp2
          go_ret2
          refine ⟨hbel, .inr ⟨hAl.out, M, cm, by rw [hhd.out]; rfl, ?_⟩⟩
          rw [hhd.out]
          exact ⟨Rd.of_own HO.out, by rw [meanL_length]; omega, meanL_all _ _⟩

/-- The document's own Mean, whatever comes: where the first vector is not too long. -/
theorem ref_Mean_any (A : Option Addr) (hs : List Hdr) (c : Nat) (w : World) (hR : Rd hdrV w w.heap.size A hs) (hl : hs.length ≤ 9223372036854775807) (hv : ∀ h ∈ hs, Vec w h.1 h.2.1) (hn' : (hdrAt hs 0).2.1.length ≤ 1000000) :
    Calls Try.prog 9 #[.slice A hs.length c] w (MeanOut (rowsOf hs) w) := by
  by_cases hne : 0 < hs.length
  · exact ref_Mean_some A hs c _ w hR hl hv hne rfl hn'
  · obtain rfl : hs = [] := by cases hs with | nil => rfl | cons x r => simp at hne
    clear hR hv hn' hne hl
    go_enter Try.func9, Try.ntmps9
    go_wp2
    go_ret2
    exact ⟨Below.refl _ _, .inl ⟨fun h => h.1 rfl, rfl⟩⟩

end Go.Proofs.Ytnfcmkmjahplpaa
