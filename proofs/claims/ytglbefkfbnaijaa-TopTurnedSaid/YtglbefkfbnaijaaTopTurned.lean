/- Whatever the order in which items come, the best are the same ones (TopTurned), walked. -/
import Derived.Test.YtglbefkfbnaijaaTopSpots
import Derived.Test.YtglbefkfbnaijaaTopBegins
import Derived.Test.YtglbefkfbnaijaaRngPerm
namespace Go.Proofs.Ytglbefkfbnaijaa
open Go.RowKit Go.Shelf Go.Sort

theorem swapL_perm (l : List Int) (i j : Nat) (hi : i < l.length) (hj : j < l.length) : (swapL l i j).Perm l := by
  unfold swapL
  rw [List.getD_eq_getElem?_getD, List.getD_eq_getElem?_getD, List.getElem?_eq_getElem hi, List.getElem?_eq_getElem hj]
  exact List.set_set_perm hi hj
theorem permGo_perm (s : BitVec 64) : ∀ (i : Nat) (l : List Int), i < l.length → (permGo s i l).Perm l
  | 0, l, _ => List.Perm.refl l
  | i + 1, l, h => by
    have hb := bel_le s (i + 1)
    exact (permGo_perm s i _ (by rw [swapL_length]; omega)).trans (swapL_perm l (i + 1) _ h (by omega))
theorem permL_perm (s : BitVec 64) (n : Nat) : (permL s n).Perm (iotaL n) := by
  rcases Nat.eq_zero_or_pos n with rfl | h
  · exact List.Perm.refl _
  · exact permGo_perm s (n - 1) (iotaL n) (by rw [iotaL_length]; omega)
/-- The spots at these places. -/
def placS (S : List SpotT) (O : List Int) : List SpotT := O.map fun x => spAt S x.toNat
theorem placS_iota (S : List SpotT) : placS S (iotaL S.length) = S := by
  unfold placS iotaL
  rw [List.map_map]
  apply List.ext_getElem?
  intro k
  rw [List.getElem?_map]
  by_cases hk : k < S.length
  · rw [List.getElem?_range hk, List.getElem?_eq_getElem hk]
    show some (spAt S ((k : Int)).toNat) = _
    rw [Int.toNat_natCast, spAt_get hk]
  · rw [List.getElem?_eq_none (by simpa using hk), List.getElem?_eq_none (by omega)]
    rfl
theorem placS_perm {S : List SpotT} {n : Nat} (s : BitVec 64) (h : S.length = n) : (placS S (permL s n)).Perm S := by
  have h1 : (placS S (permL s n)).Perm (placS S (iotaL S.length)) := by
    rw [h]
    exact (permL_perm s n).map _
  rw [placS_iota] at h1
  exact h1
theorem permL_in {s : BitVec 64} {n : Nat} {x : Int} (h : x ∈ permL s n) : ∃ j : Nat, j < n ∧ x = (j : Int) := by
  have := (permL_perm s n).mem_iff.1 h
  unfold iotaL at this
  simp only [List.mem_map, List.mem_range] at this
  obtain ⟨j, hj, rfl⟩ := this
  exact ⟨j, hj, rfl⟩
theorem placS_snoc (S : List SpotT) (O : List Int) (k : Nat) (hk : k < O.length) : placS S (O.take (k + 1)) = placS S (O.take k) ++ [spAt S (O[k]).toNat] := by
  unfold placS
  rw [List.take_succ_eq_append_getElem hk, List.map_append]
  rfl
theorem clampP_nat {n : Nat} (h : n ≤ 4096) : clampP (n : Int) = n := by
  unfold clampP
  rw [if_neg (by omega), if_neg (by omega)]
  exact Int.toNat_natCast n
theorem Rd.keptB {α : Type} {f : α → Value} {W W' : World} {B : Nat} {A : Option Addr} {zs : List α} (h : Rd f W B A zs) (hk : ∀ k o, A = some ⟨k, o, none⟩ → W'.heap[k]? = W.heap[k]?) : Rd f W' B A zs := by
  intro k z hz
  obtain ⟨g, off, rfl, hb, h0⟩ := h k z hz
  exact ⟨g, off, rfl, hb, (World.cell?_of_block (a := ⟨g, off + k, none⟩) (hk g off rfl)).trans h0⟩

set_option maxRecDepth 100000 in
set_option maxHeartbeats 16000000 in
theorem TopTurned_walk (Q : Option Addr) (q : List Int) (cq : Nat) (A : Option Addr) (its : List ItT) (ca : Nat) (s : BitVec 64) (most : Int) (w : World) (hQ : VecB w w.heap.size Q q) (hI : ItemsAt w w.heap.size A its) (hk1 : its.length ≤ ca) (_hk2 : ca ≤ 9223372036854775807) (_hk3 : A = none → ca = 0) :
    Calls Try.prog 12 #[.slice Q q.length cq, .slice A its.length ca, .int .u64 s.toNat, .int .i64 most] w fun e w' => e = .returned (.bool true) ∧ Below w.heap.size w w' := by
  by_cases hlong : 60 < its.length
  · have h1 : (60 : Int) < (its.length : Int) := by omega
    clear hlong hQ hI
    go_enter Try.func12, Try.ntmps12
    go_wp2_with fail
    refine (begins4_any w).mono ?_
    rintro e w1 ⟨rfl, hb⟩
    go_wp2
    go_ret
    exact ⟨rfl, hb⟩
  · have l1 : ¬ (60 : Int) < (its.length : Int) := by omega
    have N : Hid (its.length ≤ 60) := by rw [Hid]; omega
    have HQ := Lib.hid hQ
    have HI := Lib.hid hI
    clear hlong hQ hI
    go_enter Try.func12, Try.ntmps12
    go_wp2_with fail
    refine (begins4_any w).mono ?_
    rintro e w1 ⟨rfl, hb1⟩
    have HB1 := Lib.hid hb1
    clear hb1
    go_wp2
    go_loopw [26] (fun i wr => ∃ k : Nat, k ≤ its.length ∧ i = .int .i64 k ∧ Hid (Below w.heap.size w wr)) (fun i _ => its.length - (intOf i).toNat)
    case atStart => exact ⟨0, Nat.zero_le _, rfl, HB1.out⟩
    case round =>
      clear HB1
      obtain ⟨k, hk, rfl, HB⟩ := hrel
      by_cases hlt : k < its.length
      · obtain ⟨⟨b, off, rfl, hb, h0, h1, h2⟩, -⟩ := (HI.out.below HB.out) k _ (itAt_lt hlt)
        generalize itAt its k = z at *
        obtain ⟨id, ZA, zv, zc, tg⟩ := z
        simp only at h0 h1 h2
        have hkl : (k : Int) < (its.length : Int) := by omega
        have hk0 : (0 : Int) ≤ (k : Int) := by omega
        have hkn : ((k : Int)).toNat = k := Int.toNat_natCast k
        have hkc : (k : Int) ≤ (ca : Int) := by omega
        have HX := Lib.hid (below_new3 wr (.cells #[.int .u64 id, .slice ZA zv.length zc, .int .u64 tg] 57))
        have b0 : (wr.alloc (.cells #[.int .u64 id, .slice ZA zv.length zc, .int .u64 tg] 57)).cell? ⟨wr.heap.size, 0, none⟩ = some (.int .u64 id) := by go_cell
        have hsz : wr.heap.size < (wr.alloc (.cells #[.int .u64 id, .slice ZA zv.length zc, .int .u64 tg] 57)).heap.size := by simp
        have HBX : Hid (Below w.heap.size w (wr.alloc (.cells #[.int .u64 id, .slice ZA zv.length zc, .int .u64 tg] 57))) := HB.out.trans (HX.out.mono HB.out.size)
        clear HB HX
        go_upto_region 8 with (fail)
        generalize wr.alloc (.cells #[.int .u64 id, .slice ZA zv.length zc, .int .u64 tg] 57) = X1 at *
        generalize wr.heap.size = D at *
        clear h0 h1 h2
        go_wp2
        go_loopw [35] (fun i wr => ∃ j : Nat, j ≤ k ∧ i = .int .i64 j ∧ Hid (Below X1.heap.size X1 wr)) (fun i _ => k - (intOf i).toNat)
        case atStart => exact ⟨0, Nat.zero_le _, rfl, Below.refl _ _⟩
        case round =>
          obtain ⟨j, hj, rfl, HBJ⟩ := hrel
          by_cases hjlt : j < k
          · have HBJ2 : Hid (Below w.heap.size w wr) := HBX.out.trans (HBJ.out.mono HBX.out.size)
            obtain ⟨⟨b', off', he, hb', h0, h1, h2⟩, -⟩ := (HI.out.below HBJ2.out) j _ (itAt_lt (by omega))
            injection he with he
            injection he with e1 e2
            subst e1 e2
            generalize itAt its j = y at *
            obtain ⟨id', YA, yv, yc, tg'⟩ := y
            simp only at h0 h1 h2
            have hjl : (j : Int) < (k : Int) := by omega
            have hj0 : (0 : Int) ≤ (j : Int) := by omega
            have hjn : ((j : Int)).toNat = j := Int.toNat_natCast j
            have HBN := Lib.hid (HBJ.out.alloc HBJ.out.size (.cells #[.int .u64 id', .slice YA yv.length yc, .int .u64 tg'] 57))
            have d0 := (HBN.out.cell (p := ⟨D, 0, none⟩) hsz).trans b0
            have j0 : (wr.alloc (.cells #[.int .u64 id', .slice YA yv.length yc, .int .u64 tg'] 57)).cell? ⟨wr.heap.size, 0, none⟩ = some (.int .u64 id') := by go_cell
            clear HBJ HBJ2
            go_upto_region 11 with (fail)
            generalize wr.alloc (.cells #[.int .u64 id', .slice YA yv.length yc, .int .u64 tg'] 57) = X2 at *
            generalize wr.heap.size = D2 at *
            clear h0 h1 h2
            by_cases heq : id = id'
            · subst heq
              go_wp2
              go_ret
              exact ⟨rfl, HBX.out.trans (HBN.out.mono HBX.out.size)⟩
            · go_wp2
              go_roundw
              case rel => exact ⟨j + 1, by omega, by go_num, HBN.out⟩
              case measure => simp [intOf]; omega
          · go_wp2
            go_roundw
            case rel => exact ⟨k + 1, by omega, by go_num, HBX.out.trans (HBJ.out.mono HBX.out.size)⟩
            case measure => simp [intOf]; omega
      · obtain rfl : k = its.length := by omega
        generalize wr = w0 at *
        have hcl : clampP (its.length : Int) = its.length := clampP_nat (by have := N.out; omega)
        have HPM : Hid (∀ W, Calls Try.prog 70 #[.int .u64 s.toNat, .int .i64 its.length] W fun e W' => ∃ A c, e = .returned (.slice A its.length c) ∧ Rd (Value.int .i64) W' W'.heap.size A (permL s its.length) ∧ Below W.heap.size W W' ∧ ∀ k o, A = some ⟨k, o, none⟩ → k = W.heap.size) := by
          intro W
          have h := Perm_any s (its.length : Int) W
          rw [hcl] at h
          unfold PermOut at h
          rw [permL_length] at h
          exact h
        have HSP : Hid (∀ W, Below w.heap.size w W → Calls Try.prog 68 #[.slice Q q.length cq, .slice A its.length ca] W fun e W' => ∃ A c, e = .returned (.slice A its.length c) ∧ RdS W' W'.heap.size A (spotsL q its) ∧ Below W.heap.size W W' ∧ (spotsL q its ≠ [] → ∀ k o, A = some ⟨k, o, none⟩ → W.heap.size ≤ k)) := by
          intro W hB
          refine (spots_any Q q cq A its ca W ((HQ.out.below hB).more hB.size) ((HI.out.below hB).more hB.size) (by have := N.out; omega)).mono ?_
          rintro e W' ⟨A', c', he, hr, -, -, hb, hn⟩
          exact ⟨A', c', by rw [he, spotsL_len], hr, hb, hn⟩
        clear HQ HI hcl hk hlt hk1
        have HSL := Lib.hid (spotsL_len q its)
        generalize spotsL q its = S at *
        have HOP := Lib.hid (placS_perm s HSL.out)
        have HOI : Hid (∀ x ∈ permL s its.length, ∃ j : Nat, j < its.length ∧ x = (j : Int)) := Lib.hid fun x hx => permL_in hx
        have HOL := Lib.hid (permL_length s its.length)
        generalize permL s its.length = O at *
        generalize its.length = n at *
        go_wp2_with fail
        refine (bNew_any most w0).mono ?_
        rintro e w3 ⟨b0, rfl, r1, r2, r3, r4⟩
        have F1 := Lib.hid ((Fam.nil (P := fun k => k < w0.heap.size) w0 (fun _ h => h)).newB r1 r2 r3 r4)
        clear r1 r2 r3 r4
        go_wp2_with fail
        refine (bNew_any most w3).mono ?_
        rintro e w4 ⟨b1, rfl, r1, r2, r3, r4⟩
        have F2 := Lib.hid (show Fam (fun k => k < w0.heap.size) w0 w4 [⟨b0, some (bestN most), []⟩, ⟨b1, some (bestN most), []⟩] from F1.out.newB r1 r2 r3 r4)
        clear r1 r2 r3 r4 F1
        have HMN : Hid (min (max most 0) (n : Int) = (((keepS (bestN most) S).length : Nat) : Int)) := by
          have := N.out
          rw [Hid, keepS_len, HSL.out]
          unfold bestN
          omega
        have HKE : Hid (keepS (bestN most) (placS S O) = keepS (bestN most) S) := by
          rw [Hid]
          unfold keepS
          rw [sortS_perm_eq HOP.out]
        have HKL : Hid ((keepS (bestN most) S).length ≤ 60) := by have := N.out; rw [Hid, keepS_len, HSL.out]; omega
        generalize bestN most = m at *
        go_wp2_with fail
        refine (HPM.out w4).mono ?_
        rintro e w5 ⟨AO, cO, rfl, hrO, hbO, haO⟩
        have HRO := Lib.hid hrO
        have HBO := Lib.hid hbO
        have HAO := Lib.hid haO
        clear hrO hbO haO HPM
        have HB5 : Hid (Below w.heap.size w w5) := HB.out.trans (((F2.out.below).trans (HBO.out.mono F2.out.below.size)).mono HB.out.size)
        go_wp2_with fail
        refine (HSP.out w5 HB5.out).mono ?_
        rintro e w6 ⟨AS, cS, rfl, hrS, hbS, haS⟩
        have HRS := Lib.hid hrS
        have HRO6 := Lib.hid (HRO.out.below hbS)
        have HAS := Lib.hid haS
        have HBS := Lib.hid hbS
        have HF6 := Lib.hid (F2.out.adds (HBO.out.trans (hbS.mono HBO.out.size)))
        have HPS : Hid (0 < n → ∀ k o, AS = some ⟨k, o, none⟩ → w4.heap.size ≤ k) := Lib.hid fun h0 k o e => Nat.le_trans HBO.out.size (HAS.out (fun h => by have := HSL.out; rw [h] at this; simp at this; omega) k o e)
        have hs56 := hbS.size
        have HRO7 : Hid (Rd (Value.int .i64) w6 w6.heap.size AO O) := HRO6.out.more hs56
        have HPO : Hid (∀ k o, AO = some ⟨k, o, none⟩ → w4.heap.size ≤ k) := Lib.hid fun k o e => Nat.le_of_eq (HAO.out k o e).symm
        clear hrS hbS haS HSP HRO HRO6 HAO HAS HBO HBS F2 HB5 hs56
        go_wp2
        go_loopw [72] (fun i wr => ∃ k : Nat, k ≤ n ∧ i = .int .i64 k ∧ RdS wr w6.heap.size AS S ∧ Rd (Value.int .i64) wr w6.heap.size AO O ∧ w6.heap.size ≤ wr.heap.size ∧ Hid (Fam (fun b => b < w0.heap.size ∨ (w4.heap.size ≤ b ∧ b < w6.heap.size)) w0 wr [⟨b0, some m, S.take k⟩, ⟨b1, some m, placS S (O.take k)⟩])) (fun i _ => n - (intOf i).toNat)
        case atStart => exact ⟨0, Nat.zero_le _, rfl, HRS.out, HRO7.out, Nat.le_refl _, HF6.out⟩
        case round =>
          clear HF6 HRS HRO7
          obtain ⟨k, hk, rfl, hRS, hRO, hsz, HF⟩ := hrel
          by_cases hlt : k < n
          · have hkS : k < S.length := by rw [HSL.out]; exact hlt
            have hkO : k < O.length := by rw [HOL.out]; exact hlt
            obtain ⟨b, off, rfl, hb, h0, h1, h2⟩ := hRS k _ (List.getElem?_eq_getElem hkS)
            obtain ⟨bO, oO, rfl, hbO, o0⟩ := hRO.at_ hkO
            obtain ⟨j, hj, hjx⟩ := HOI.out _ (List.getElem_mem hkO)
            have HTO : Hid (placS S (O.take (k + 1)) = placS S (O.take k) ++ [spAt S j]) := by rw [Hid, placS_snoc S O k hkO, hjx, Int.toNat_natCast]
            rw [hjx] at o0
            clear hjx
            have HT : Hid (S.take (k + 1) = S.take k ++ [S[k]]) := List.take_succ_eq_append_getElem hkS
            have hjS : j < S.length := by rw [HSL.out]; exact hj
            obtain ⟨b', off', he, hb', y0, y1, y2⟩ := hRS j _ (spAt_lt hjS)
            injection he with he
            injection he with e1 e2
            subst e1 e2
            generalize S[k] = z at *
            generalize spAt S j = y at *
            obtain ⟨⟨za, zb⟩, zc⟩ := z
            obtain ⟨⟨ya, yb⟩, yc⟩ := y
            simp only at h0 h1 h2 y0 y1 y2
            have hkl : (k : Int) < (n : Int) := by omega
            have hk0 : (0 : Int) ≤ (k : Int) := by omega
            have hkn : ((k : Int)).toNat = k := Int.toNat_natCast k
            have hjl : (j : Int) < (n : Int) := by omega
            have hj0 : (0 : Int) ≤ (j : Int) := by omega
            have hjn : ((j : Int)).toNat = j := Int.toNat_natCast j
            have hbP := HPS.out (by omega) b off rfl
            have hoP := HPO.out bO oO rfl
            have HSPk : Hid (∀ k' o, (some ⟨b, off, none⟩ : Option Addr) = some ⟨k', o, none⟩ → w4.heap.size ≤ k' ∧ k' < w6.heap.size) := Lib.hid fun k' o e => by injection e with e; injection e with e; subst e; exact ⟨hbP, hb⟩
            have HOPk : Hid (∀ k' o, (some ⟨bO, oO, none⟩ : Option Addr) = some ⟨k', o, none⟩ → w4.heap.size ≤ k' ∧ k' < w6.heap.size) := Lib.hid fun k' o e => by injection e with e; injection e with e; subst e; exact ⟨hoP, hbO⟩
            have HD := Lib.hid (SpC.new wr za zb zc)
            have HF1 := Lib.hid (HF.out.alloc (.cells #[.int .u64 za, .int .u64 zb, .int .i64 zc] 33))
            have HBA := Lib.hid ((Below.refl _ wr).alloc hsz (.cells #[.int .u64 za, .int .u64 zb, .int .i64 zc] 33))
            have HRS1 := Lib.hid (hRS.below HBA.out)
            have HRO1 := Lib.hid (hRO.below HBA.out)
            have HSZ : Hid (w6.heap.size ≤ (wr.alloc (.cells #[.int .u64 za, .int .u64 zb, .int .i64 zc] 33)).heap.size) := by rw [Hid]; simp; omega
            have HO1 := Lib.hid ((HBA.out.cell (p := ⟨bO, oO + k, none⟩) hbO).trans o0)
            have HY1 := Lib.hid (And.intro ((HBA.out.cell (p := ⟨b, off + j * 3, none⟩) hb).trans y0) (And.intro ((HBA.out.cell (p := ⟨b, off + j * 3 + 1, none⟩) hb).trans y1) ((HBA.out.cell (p := ⟨b, off + j * 3 + 2, none⟩) hb).trans y2)))
            have HBH := Lib.hid (And.intro hb hbO)
            clear HF hRS hRO hbP hoP o0 y0 y1 y2 HBA hb hbO hb'
            go_upto_region 23 with (fail)
            generalize wr.alloc (.cells #[.int .u64 za, .int .u64 zb, .int .i64 zc] 33) = X1 at *
            generalize wr.heap.size = D at *
            clear h0 h1 h2
            obtain ⟨d0, d1, d2⟩ := HD.out
            simp only at d0 d1 d2
            go_wp2_with fail
            refine (Fam.offer HF1.out (i := 0) (L := S.take k) (m := m) (b := b0) rfl ((za, zb), zc) (by have := N.out; rw [List.length_take, HSL.out]; omega)).mono ?_
            rintro e X2 ⟨rfl, hf, hs⟩
            have HF2 := Lib.hid (hf.less (P' := fun b => b < w0.heap.size ∨ (w4.heap.size ≤ b ∧ b < w6.heap.size)) (fun _ h => .inl h))
            have HRS2 := Lib.hid (HRS1.out.kept (fun k' o e => hs k' (.inl (.inr (HSPk.out k' o e)))))
            have HRO2 := Lib.hid (HRO1.out.keptB (fun k' o e => hs k' (.inl (.inr (HOPk.out k' o e)))))
            have ebO := hs bO (.inl (.inr (HOPk.out bO oO rfl)))
            have ebS := hs b (.inl (.inr (HSPk.out b off rfl)))
            have o0 := (World.cell?_of_block (a := ⟨bO, oO + k, none⟩) ebO).trans HO1.out
            have y0 := (World.cell?_of_block (a := ⟨b, off + j * 3, none⟩) ebS).trans HY1.out.1
            have y1 := (World.cell?_of_block (a := ⟨b, off + j * 3 + 1, none⟩) ebS).trans HY1.out.2.1
            have y2 := (World.cell?_of_block (a := ⟨b, off + j * 3 + 2, none⟩) ebS).trans HY1.out.2.2
            have hsz2 : w6.heap.size ≤ X2.heap.size := Nat.le_trans HSZ.out hs.size
            have HSZ2 := Lib.hid hsz2
            clear hf hs d0 d1 d2 HD HF1 HRS1 HRO1 HSZ ebO ebS HO1 HY1 hsz2
            go_wp2_with fail
            refine (Fam.offer HF2.out (i := 1) (L := placS S (O.take k)) (m := m) (b := b1) rfl ((ya, yb), yc) (by have := N.out; unfold placS; rw [List.length_map, List.length_take, HOL.out]; omega)).mono ?_
            rintro e X3 ⟨rfl, hf, hs⟩
            have HF3 := Lib.hid hf
            have HRS3 := Lib.hid (HRS2.out.kept (fun k' o e => hs k' (.inr (HSPk.out k' o e))))
            have HRO3 := Lib.hid (HRO2.out.keptB (fun k' o e => hs k' (.inr (HOPk.out k' o e))))
            have hsz3 : w6.heap.size ≤ X3.heap.size := Nat.le_trans HSZ2.out hs.size
            clear hf hs HF2 HRS2 HRO2 HSZ2 HSPk HOPk o0 y0 y1 y2
            go_wp2
            go_roundw
            case rel => exact ⟨k + 1, by omega, by go_num, HRS3.out, HRO3.out, hsz3, by rw [HT.out, HTO.out]; exact HF3.out⟩
            case measure => simp [intOf]; omega
          · have hke : k = n := by omega
            have HFE : Hid (Fam (fun b => b < w0.heap.size ∨ (w4.heap.size ≤ b ∧ b < w6.heap.size)) w0 wr [⟨b0, some m, S⟩, ⟨b1, some m, placS S O⟩]) := by
              have h := HF.out
              rw [hke, List.take_of_length_le (by rw [HSL.out]; exact Nat.le_refl _), List.take_of_length_le (by rw [HOL.out]; exact Nat.le_refl _)] at h
              exact h
            have hlo : (placS S O).length ≤ 100000 := by have := N.out; unfold placS; rw [List.length_map, HOL.out]; omega
            have hls : S.length ≤ 100000 := by have := N.out; rw [HSL.out]; omega
            clear HF hRS hRO hsz HPS HPO hke
            go_wp2_with fail
            refine (Fam.list HFE.out (i := 0) (b := b0) (m := m) (L := S) rfl hls).mono ?_
            obtain ⟨KS, hKS⟩ : ∃ KS, keepS m S = KS := ⟨_, rfl⟩
            have HKS := Lib.hid hKS
            rw [hKS] at HKE HMN HKL
            rw [hKS]
            clear hKS
            rintro e Y1 ⟨B1, d1, rfl, hr, -, -, hb⟩
            have HA1 := Lib.hid hr
            have HG1 := Lib.hid (HFE.out.later hb)
            clear hr hb HFE
            go_wp2_with fail
            refine (Fam.list HG1.out (i := 1) (b := b1) (m := m) (L := placS S O) rfl hlo).mono ?_
            rw [HKE.out]
            rintro e Y2 ⟨B2, d2, rfl, hr, -, -, hb⟩
            have HA2 := Lib.hid hr
            have HA1b := Lib.hid (rdS_later HA1.out hb)
            have HG2 := Lib.hid (HG1.out.later hb)
            clear hr hb HG1 HA1
            go_wp2_with fail
            refine (alike_refl B1 B2 KS d1 d2 _ HA1b.out HA2.out (by have := HKL.out; omega)).mono ?_
            rintro e Y3 ⟨rfl, hd⟩
            have HG3 := Lib.hid (HG2.out.later (hd.below _))
            clear hd HG2 HA1b HA2
            go_wp2_with fail
            refine (Fam.list HG3.out (i := 0) (b := b0) (m := m) (L := S) rfl hls).mono ?_
            rw [HKS.out]
            rintro e Y4 ⟨B4, d4, rfl, -, -, -, hb⟩
            have HG4 := Lib.hid (HG3.out.later hb).below
            clear hb HG3
            go_wp2
            go_ret
            refine ⟨?_, HB.out.trans (HG4.out.mono HB.out.size)⟩
            rw [HMN.out]
            simp

end Go.Proofs.Ytglbefkfbnaijaa
