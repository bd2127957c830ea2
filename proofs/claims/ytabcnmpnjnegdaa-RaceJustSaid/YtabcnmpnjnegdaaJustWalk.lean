/- A clash is told just if two accesses of data, one of them a write, are ordered by nothing (RaceJust), walked. -/
import Derived.Test.YtabcnmpnjnegdaaJustIn
import Derived.Test.YtabcnmpnjnegdaaRacLives
namespace Go.Proofs.Ytabcnmpnjnegdaa
open Go.RowKit

set_option maxRecDepth 100000 in
set_option maxHeartbeats 60000000 in
theorem RaceJust_walk (A : Option Addr) (l : List D3) (c : Nat) (w : World) (hA : DdD w w.heap.size A l) (hI : ∀ x ∈ l, IsI x.2) (hl : l.length ≤ 9223372036854775807) (hc : l.length ≤ c) (hn : A = none → c = 0) :
    Calls Try.prog 6 #[.slice A l.length c] w fun e w' => e = .returned (.bool true) ∧ Below w.heap.size w w' := by
  by_cases hlong : 24 < l.length
  · have hi : (24 : Int) < (l.length : Int) := by omega
    clear hA hI
    go_enter Try.func6, Try.ntmps6
    go_wp2_with fail
    refine (race_lives_any _).mono ?_
    rintro e w1 ⟨rfl, hb1⟩
    go_wp2
    go_ret
    exact ⟨rfl, hb1⟩
  have hi : ¬ (24 : Int) < (l.length : Int) := by omega
  obtain ⟨i0, hi0, hz0, hz1, hz2⟩ := info_parts info_bool
  obtain ⟨i1, hi1, hy0, hy1, hy2⟩ := info_parts info_bools
  have hb1 : i0.bytes * l.length ≤ 281474976710656 := by rw [hz2]; omega
  have hb24 : i1.bytes * l.length ≤ 281474976710656 := by rw [hy2]; omega
  have hml : l.length ≤ maxLen := by unfold maxLen; omega
  have HM := Lib.hid (And.intro hi0 (And.intro hz0 (And.intro hz1 hb1)))
  clear hi0 hz0 hz1 hb1
  go_enter Try.func6, Try.ntmps6
  go_wp2_with fail
  refine (race_lives_any _).mono ?_
  rintro e w1 ⟨rfl, hb1⟩
  have HB1 := Lib.hid hb1
  have HA := Lib.hid ((hA.below hb1).more hb1.size)
  have HII := Lib.hid hI
  clear hA hb1 hI
  go_wp2_with fail
  refine (New_w3 _).mono ?_
  rintro e w2 ⟨B, rfl, h2⟩
  have H2 := Lib.hid h2
  clear h2
  go_wp2_with (at_make; refine wpList_make_full _ rfl _ _ _ rfl w2.heap.size 52 i1 (.slice none 0 0) 1 Try.underlying51 hi1 hy0 hy1 _ _ _ _ l.length rfl rfl rfl rfl hb24 hml (Nat.le_refl _) ?_; intro w3 hown hgr)
  have hb3 : Below w2.heap.size w2 w3 := (Below.refl _ _).grown hgr (Nat.le_refl _) (fun _ h => by cases h)
  have hlt3 := own_lt hown
  have hcs := made_cells rfl hown
  have hO : Out w1 l B w2.heap.size (fun _ => 0) 0 0 w3 := by
    refine ⟨H2.out.add hb3 fun b e => .inr ?_, ⟨fun j h => absurd h (Nat.not_lt_zero j), fun j hj => ?_, fun j h => absurd h (Nat.not_lt_zero j), fun j h => absurd h (Nat.not_lt_zero j), fun j k h => absurd h (Nat.not_lt_zero j)⟩⟩
    · rcases e with rfl | ⟨j, h, _⟩
      · exact ⟨Nat.le_refl _, hlt3⟩
      · exact absurd h (Nat.not_lt_zero j)
    · rw [(hcs j hj).1]
      exact ⟨rfl, (hcs j hj).2⟩
  generalize w2.heap.size = b0 at *
  clear hown hgr hi1 hy0 hy1 hy2 hb24 hb3 hlt3 hcs H2
  go_wp2
  go_loopw [31, 4, 6] (fun iv fv cv wr => ∃ (i : Nat) (rb : Nat → Nat) (f cl : Bool), i ≤ l.length ∧ iv = .int .i64 i ∧ fv = .bool f ∧ cv = .bool cl ∧ Hid (Out w1 l B b0 rb (3 * i) i wr) ∧ Hid (f = true ↔ ∀ j, j < i → okA l j = true) ∧ Hid (cl = true ↔ Cl l i 0)) (fun iv _ _ _ => l.length - (intOf iv).toNat)
  case atStart => exact ⟨0, _, true, false, Nat.zero_le _, rfl, rfl, rfl, hO, ⟨fun _ j h => absurd h (Nat.not_lt_zero j), fun _ => rfl⟩, ⟨fun h => Bool.noConfusion h, fun h => absurd h Cl.zero⟩⟩
  case round =>
    obtain ⟨i, rb, f, cl, hil, rfl, rfl, rfl, HO, HF, HC⟩ := hrel
    clear hO
    by_cases hlt : i < l.length
    · obtain ⟨b, off, rfl, hbb, hc0, hc1, hc2⟩ := HA.out i _ (List.getElem?_eq_getElem hlt)
      have hsb := HO.out.w3.below
      have a0 := (hsb.cell (p := ⟨b, off + i * 3, none⟩) hbb).trans hc0
      have a1 := (hsb.cell (p := ⟨b, off + i * 3 + 1, none⟩) hbb).trans hc1
      have a2 := (hsb.cell (p := ⟨b, off + i * 3 + 2, none⟩) hbb).trans hc2
      have hg := List.getElem?_eq_getElem hlt
      have hdI := HII.out _ (List.getElem_mem hlt)
      generalize l[i] = d at *
      have hil2 : (i : Int) < (l.length : Int) := by omega
      have hil0 : (0 : Int) ≤ (i : Int) := by omega
      have HG := Lib.hid hg
      clear hc0 hc1 hc2 hsb hg
      obtain ⟨hi0, hz0, hz1, hb1⟩ := HM.out
      have hw : d.1.2 < 0 ∨ (0 ≤ d.1.2 ∧ 64 < d.1.2) ∨ (0 ≤ d.1.2 ∧ d.1.2 ≤ 64) := by omega
      have hnv : (d.1.2 < 0 ∨ 64 < d.1.2) → ¬ Val l i := fun h hv => by
        rw [val_iff, wkr_of HG.out] at hv
        have := of_decide_eq_true (show decide (0 ≤ d.1.2 ∧ d.1.2 ≤ 64) = true from hv)
        omega
      have hyv : (0 ≤ d.1.2 ∧ d.1.2 ≤ 64) → Val l i := fun h => by
        rw [val_iff, wkr_of HG.out]
        exact decide_eq_true h
      have HNV := Lib.hid hnv
      have HYV := Lib.hid hyv
      have HDI := Lib.hid hdI
      clear hnv hyv hdI
      rcases hw with hneg | ⟨hpos, hbig⟩ | ⟨hpos, hsm⟩
      · as_aux_lemma =>
        have HV := Lib.hid (HNV.out (.inl hneg))
        have fs := fine_step HF.out
        rw [ok_not hlt HV.out, Bool.and_true] at fs
        have FS := Lib.hid fs
        clear fs
        go_wp2_with (at_make; go_loud (refine wpList_make_full _ rfl _ _ _ rfl (wr.alloc (.cells #[.int .i64 d.1.1, .int .i64 d.1.2, .int .i64 d.2] 41)).heap.size 4 i0 (.bool false) 1 Try.underlying52 hi0 hz0 hz1 _ _ _ _ l.length rfl rfl rfl rfl hb1 hml (Nat.le_refl _) ?_; intro w4 hown hgr; obtain ⟨⟨u, hu⟩, hfz, hin⟩ := Out.enter HO.out hlt HG.out hown hgr; have e0 := hin.d0; have e1 := hin.d1; have e2 := hin.d2; rw [kd_of HG.out] at e0; rw [wkr_of HG.out] at e1; rw [plc_of HG.out] at e2; have HIN := Lib.hid hin; clear hown hgr hin))
        have HDO := Lib.hid (In.do_ HIN.out (by omega) HG.out HDI.out)
        rw [ok_not hlt HV.out] at HDO
        clear HIN
        refine HDO.out.mono ?_
        rintro e w5 ⟨rfl, h5⟩
        have HO5 := Lib.hid (In.leave (h5.congr fun k _ => (dB_no.2 fun h => HV.out h.val.1).symm))
        clear h5 HDO hu hfz e0 e1 e2
        go_wp2
        go_roundw
        case rel => exact ⟨i + 1, _, f, cl, hlt, by go_num, rfl, rfl, HO5.out, FS.out, HC.out.trans (Cl.none HV.out)⟩
        case measure => simp [intOf]; omega
      · as_aux_lemma =>
        have HV := Lib.hid (HNV.out (.inr hbig))
        have fs := fine_step HF.out
        rw [ok_not hlt HV.out, Bool.and_true] at fs
        have FS := Lib.hid fs
        clear fs
        go_wp2_with (at_make; go_loud (refine wpList_make_full _ rfl _ _ _ rfl (wr.alloc (.cells #[.int .i64 d.1.1, .int .i64 d.1.2, .int .i64 d.2] 41)).heap.size 4 i0 (.bool false) 1 Try.underlying52 hi0 hz0 hz1 _ _ _ _ l.length rfl rfl rfl rfl hb1 hml (Nat.le_refl _) ?_; intro w4 hown hgr; obtain ⟨⟨u, hu⟩, hfz, hin⟩ := Out.enter HO.out hlt HG.out hown hgr; have e0 := hin.d0; have e1 := hin.d1; have e2 := hin.d2; rw [kd_of HG.out] at e0; rw [wkr_of HG.out] at e1; rw [plc_of HG.out] at e2; have HIN := Lib.hid hin; clear hown hgr hin))
        have HDO := Lib.hid (In.do_ HIN.out (by omega) HG.out HDI.out)
        rw [ok_not hlt HV.out] at HDO
        clear HIN
        refine HDO.out.mono ?_
        rintro e w5 ⟨rfl, h5⟩
        have HO5 := Lib.hid (In.leave (h5.congr fun k _ => (dB_no.2 fun h => HV.out h.val.1).symm))
        clear h5 HDO hu hfz e0 e1 e2
        go_wp2
        go_roundw
        case rel => exact ⟨i + 1, _, f, cl, hlt, by go_num, rfl, rfl, HO5.out, FS.out, HC.out.trans (Cl.none HV.out)⟩
        case measure => simp [intOf]; omega
      · have HV := Lib.hid (HYV.out ⟨hpos, hsm⟩)
        have fs := fine_step HF.out
        have FS := Lib.hid fs
        clear fs
        go_wp2_with (at_make; go_loud (refine wpList_make_full _ rfl _ _ _ rfl (wr.alloc (.cells #[.int .i64 d.1.1, .int .i64 d.1.2, .int .i64 d.2] 41)).heap.size 4 i0 (.bool false) 1 Try.underlying52 hi0 hz0 hz1 _ _ _ _ l.length rfl rfl rfl rfl hb1 hml (Nat.le_refl _) ?_; intro w4 hown hgr; obtain ⟨⟨u, hu⟩, hfz, hin⟩ := Out.enter HO.out hlt HG.out hown hgr; have e0 := hin.d0; have e1 := hin.d1; have e2 := hin.d2; rw [kd_of HG.out] at e0; rw [wkr_of HG.out] at e1; rw [plc_of HG.out] at e2; have HIN := Lib.hid hin; clear hown hgr hin))
        have HDO := Lib.hid (In.do_ HIN.out (by omega) HG.out HDI.out)
        clear HIN hu hfz e0 e1 e2 HO HF HNV HYV
        generalize okA l i = ok at *
        generalize wr.heap.size = db at *
        generalize (fun j => if j = i then db + 1 else rb j) = rb2 at *
        refine HDO.out.mono ?_
        rintro e w5 ⟨rfl, h5⟩
        have HI5 := Lib.hid (h5.congr (g' := sameB l i 0) fun k _ => (sameB_zero i k).symm)
        clear h5 HDO
        go_upto_region 19 with (fail)
        go_cut [4, 31] from 31 to 237 (fun fv iv wx => fv = .bool (f && ok) ∧ iv = .int .i64 (i : Int) ∧ wx = w5)
        case first =>
          clear FS HI5 HA HG
          cases f
          · go_wp2
            go_meet
            exact ⟨rfl, rfl, rfl⟩
          · go_wp2
            go_meet
            exact ⟨by rw [Bool.true_and], rfl, rfl⟩
        case rest =>
        obtain ⟨rfl, rfl, rfl⟩ := hcut
        generalize (f && ok) = ff at *
        go_wp2
        go_loopw [10, 65] (fun zv kv wx => ∃ (k : Nat) (z : Int), k ≤ i ∧ kv = .int .i64 k ∧ zv = .int .i64 z ∧ Hid (LastI l (plc l i) k z) ∧ Hid (In w1 l B b0 db rb2 (3 * i + 3) i (stA l (i + 1)) (sameB l i k) wx)) (fun _ kv _ => i - (intOf kv).toNat)
        case atStart => exact ⟨0, -1, Nat.zero_le _, rfl, rfl, LastI.zero _, HI5.out⟩
        case round =>
          obtain ⟨k, z, hki, rfl, rfl, HL, HI⟩ := hrel
          clear HI5
          by_cases hlk : k < i
          · as_aux_lemma =>
            have hkl : k < l.length := by omega
            obtain ⟨b3, off3, he3, hbb3, xc0, xc1, xc2⟩ := HI.out.src HA.out k _ (List.getElem?_eq_getElem hkl)
            injection he3 with he3
            injection he3 with e1 e2
            subst e1 e2
            have hx := List.getElem?_eq_getElem hkl
            generalize l[k] = x at *
            have hin := HI.out.later (below_new wr (.cells #[.int .i64 x.1.1, .int .i64 x.1.2, .int .i64 x.2] 41))
            obtain ⟨p1, p2, p3⟩ := hin.at_ (Nat.le_refl i) hkl
            obtain ⟨y0, y1, y2⟩ := wD_cell wr x
            have q1 := hin.d1
            rw [wkr_of HG.out] at q1
            unfold wD at y0 y1 y2
            have hne : rb2 i ≠ wr.heap.size := Nat.ne_of_lt (HI.out.w3.lt (.inr (.inr ⟨i, Nat.lt_succ_self i, rfl⟩)))
            have HX := Lib.hid hin
            have hkI : (k : Int) < (i : Int) := by omega
            have hk0 : (0 : Int) ≤ (k : Int) := by omega
            have hks : wkr l k = x.1.2 := wkr_of hx
            have HXX := Lib.hid hx
            clear hin hx
            have HHL := Lib.hid HL.out
            go_upto_if 74 with (fail)
            generalize wr.alloc (.cells #[.int .i64 x.1.1, .int .i64 x.1.2, .int .i64 x.2] 41) = X at *
            generalize wr.heap.size = eb at *
            go_cut [65] from 65 to 107 (fun kv wc => kv = .int .i64 (k : Int) ∧ Hid (In w1 l B b0 db rb2 (3 * i + 3) i (stA l (i + 1)) (sameB l i (k + 1)) wc) ∧ wc.cell? ⟨eb, 0, none⟩ = some (.int .i64 x.1.1) ∧ wc.cell? ⟨eb, 1, none⟩ = some (.int .i64 x.1.2) ∧ wc.cell? ⟨eb, 2, none⟩ = some (.int .i64 x.2))
            case first =>
              by_cases hs : x.1.2 = d.1.2
              · have hs' : wkr l k = wkr l i := by rw [hks, wkr_of HG.out]; exact hs
                have hin2 := (HX.out.set hkl true).congr (g' := sameB l i (k + 1)) fun j _ => sameB_yes hs' j
                have hn : ∀ o, Addr.mk (rb2 i) k none ≠ Addr.mk eb o none := fun o e => hne (Addr.mk.inj e).1
                have HF : Hid (In w1 l B b0 db rb2 (3 * i + 3) i (stA l (i + 1)) (sameB l i (k + 1)) (X.setCell ⟨rb2 i, k, none⟩ (.bool true)) ∧ (X.setCell ⟨rb2 i, k, none⟩ (.bool true)).cell? ⟨eb, 0, none⟩ = some (.int .i64 x.1.1) ∧ (X.setCell ⟨rb2 i, k, none⟩ (.bool true)).cell? ⟨eb, 1, none⟩ = some (.int .i64 x.1.2) ∧ (X.setCell ⟨rb2 i, k, none⟩ (.bool true)).cell? ⟨eb, 2, none⟩ = some (.int .i64 x.2)) :=
                  ⟨hin2, (World.cell?_setCell_other _ _ _ _ (hn 0)).trans y0, (World.cell?_setCell_other _ _ _ _ (hn 1)).trans y1, (World.cell?_setCell_other _ _ _ _ (hn 2)).trans y2⟩
                clear hin2 hn HX HI hs'
                go_wp2
                go_meet
                exact ⟨rfl, HF.out⟩
              · have hs' : wkr l k ≠ wkr l i := by rw [hks, wkr_of HG.out]; exact hs
                have HF : Hid (In w1 l B b0 db rb2 (3 * i + 3) i (stA l (i + 1)) (sameB l i (k + 1)) X ∧ X.cell? ⟨eb, 0, none⟩ = some (.int .i64 x.1.1) ∧ X.cell? ⟨eb, 1, none⟩ = some (.int .i64 x.1.2) ∧ X.cell? ⟨eb, 2, none⟩ = some (.int .i64 x.2)) :=
                  ⟨HX.out.congr fun j _ => sameB_no hs' j, y0, y1, y2⟩
                clear HX HI hs'
                go_wp2
                go_meet
                exact ⟨rfl, HF.out⟩
            case rest =>
              obtain ⟨rfl, HI2, x0, x1, x2⟩ := hcut
              have q2 := HI2.out.d2
              rw [plc_of HG.out] at q2
              clear y0 y1 y2 q1 p1 p2 p3 HX HI xc0 xc1 xc2
              have hsto := sto_iff (p := plc l i) HXX.out
              rw [plc_of HG.out] at hsto
              have hpl := plc_of HG.out
              rw [hpl] at HHL
              have NO : ¬ Sto l d.2 k → Hid (LastI l d.2 (k + 1) z) := fun h => HHL.out.no h
              have YES : Sto l d.2 k → Hid (LastI l d.2 (k + 1) (k : Int)) := fun h => LastI.yes h
              have HNO := Lib.hid NO
              have HYES := Lib.hid YES
              have HSTO := Lib.hid hsto
              have HPL := Lib.hid hpl
              clear NO YES hsto hpl HHL HL
              by_cases hk12 : x.1.1 = 1 ∨ x.1.1 = 2
              · by_cases hp : x.2 = d.2
                · by_cases hw : 0 ≤ x.1.2
                  · by_cases hw2 : x.1.2 ≤ 64
                    · have HLA := HYES.out (HSTO.out.2 ⟨⟨hw, hw2⟩, hk12, hp⟩)
                      rcases hk12 with hk1 | hk1
                      · go_wp2
                        go_roundw
                        case rel => exact ⟨k + 1, (k : Int), by omega, by go_num, rfl, by rw [HPL.out]; exact HLA, HI2⟩
                        case measure => simp [intOf]; omega
                      · have hk1n : ¬ x.1.1 = 1 := by omega
                        go_wp2
                        go_roundw
                        case rel => exact ⟨k + 1, (k : Int), by omega, by go_num, rfl, by rw [HPL.out]; exact HLA, HI2⟩
                        case measure => simp [intOf]; omega
                    · have HLA := HNO.out (fun h => hw2 (HSTO.out.1 h).1.2)
                      rcases hk12 with hk1 | hk1
                      · go_wp2
                        go_roundw
                        case rel => exact ⟨k + 1, z, by omega, by go_num, rfl, by rw [HPL.out]; exact HLA, HI2⟩
                        case measure => simp [intOf]; omega
                      · have hk1n : ¬ x.1.1 = 1 := by omega
                        go_wp2
                        go_roundw
                        case rel => exact ⟨k + 1, z, by omega, by go_num, rfl, by rw [HPL.out]; exact HLA, HI2⟩
                        case measure => simp [intOf]; omega
                  · have HLA := HNO.out (fun h => hw (HSTO.out.1 h).1.1)
                    rcases hk12 with hk1 | hk1
                    · go_wp2
                      go_roundw
                      case rel => exact ⟨k + 1, z, by omega, by go_num, rfl, by rw [HPL.out]; exact HLA, HI2⟩
                      case measure => simp [intOf]; omega
                    · have hk1n : ¬ x.1.1 = 1 := by omega
                      go_wp2
                      go_roundw
                      case rel => exact ⟨k + 1, z, by omega, by go_num, rfl, by rw [HPL.out]; exact HLA, HI2⟩
                      case measure => simp [intOf]; omega
                · have HLA := HNO.out (fun h => hp (HSTO.out.1 h).2.2)
                  rcases hk12 with hk1 | hk1
                  · go_wp2
                    go_roundw
                    case rel => exact ⟨k + 1, z, by omega, by go_num, rfl, by rw [HPL.out]; exact HLA, HI2⟩
                    case measure => simp [intOf]; omega
                  · have hk1n : ¬ x.1.1 = 1 := by omega
                    go_wp2
                    go_roundw
                    case rel => exact ⟨k + 1, z, by omega, by go_num, rfl, by rw [HPL.out]; exact HLA, HI2⟩
                    case measure => simp [intOf]; omega
              · have HLA := HNO.out (fun h => hk12 (HSTO.out.1 h).2.1)
                have hk1n : ¬ x.1.1 = 1 := fun e => hk12 (.inl e)
                have hk2n : ¬ x.1.1 = 2 := fun e => hk12 (.inr e)
                clear hk12
                go_wp2
                go_roundw
                case rel => exact ⟨k + 1, z, by omega, by go_num, rfl, by rw [HPL.out]; exact HLA, HI2⟩
                case measure => simp [intOf]; omega
          · obtain rfl : i = k := by omega
            as_aux_lemma =>
            have q0 := HI.out.d0
            have hkd := kd_of HG.out
            rw [hkd] at q0
            clear hlk
            go_upto_region 29 with (fail)
            go_cut [31, 119] from 31 to 237 (fun iv tv wc => iv = .int .i64 (i : Int) ∧ wc = wr ∧ ∃ t : Bool, tv = .bool t ∧ Hid (t = true → (kd l i = 0 ∨ kd l i = 2) ∧ ∃ s : Nat, z = (s : Int) ∧ Last l (plc l i) i s) ∧ Hid (t = false → ¬ (kd l i = 0 ∨ kd l i = 2) ∨ ∀ s, ¬ Last l (plc l i) i s))
            case first =>
              have HKD := Lib.hid hkd
              clear hkd
              by_cases hk02 : d.1.1 = 0 ∨ d.1.1 = 2
              · have HK : Hid (kd l i = 0 ∨ kd l i = 2) := by rw [Hid, HKD.out]; exact hk02
                rcases HL.out with ⟨rfl, hno⟩ | ⟨s, rfl, hs⟩
                · have HNO := Lib.hid hno
                  clear hno
                  rcases hk02 with hk1 | hk1
                  · go_wp2
                    go_meet
                    exact ⟨rfl, rfl, false, rfl, fun h => Bool.noConfusion h, fun _ => .inr HNO.out⟩
                  · have hk1n : ¬ d.1.1 = 0 := by omega
                    go_wp2
                    go_meet
                    exact ⟨rfl, rfl, false, rfl, fun h => Bool.noConfusion h, fun _ => .inr HNO.out⟩
                · have HS := Lib.hid hs
                  have hs0 : (0 : Int) ≤ (s : Int) := by omega
                  clear hs
                  rcases hk02 with hk1 | hk1
                  · go_wp2
                    go_meet
                    exact ⟨rfl, rfl, true, rfl, fun _ => ⟨HK.out, s, rfl, HS.out⟩, fun h => Bool.noConfusion h⟩
                  · have hk1n : ¬ d.1.1 = 0 := by omega
                    go_wp2
                    go_meet
                    exact ⟨rfl, rfl, true, rfl, fun _ => ⟨HK.out, s, rfl, HS.out⟩, fun h => Bool.noConfusion h⟩
              · have HK : Hid (¬ (kd l i = 0 ∨ kd l i = 2)) := by rw [Hid, HKD.out]; exact hk02
                have hk1n : ¬ d.1.1 = 0 := fun e => hk02 (.inl e)
                have hk2n : ¬ d.1.1 = 2 := fun e => hk02 (.inr e)
                clear hk02
                go_wp2
                go_meet
                exact ⟨rfl, rfl, false, rfl, fun h => Bool.noConfusion h, fun _ => .inl HK.out⟩
            case rest =>
            obtain ⟨rfl, hwc, t, rfl, HT1, HT2⟩ := hcut
            subst hwc
            go_upto_if 119 with (fail)
            go_cut [31] from 31 to 237 (fun iv wc => iv = .int .i64 (i : Int) ∧ Hid (In w1 l B b0 db rb2 (3 * i + 3) i (stA l (i + 1)) (fun x => dB (Base l i x)) wc))
            case first =>
              cases t
              · have HF := Lib.hid (HI.out.congr fun x _ => base_no HV.out (HT2.out rfl) x)
                clear HI
                go_wp2
                go_meet
                exact ⟨rfl, HF.out⟩
              · obtain ⟨hk02, s, rfl, hs⟩ := HT1.out rfl
                have hsl : s < l.length := Nat.lt_trans hs.1 hlt
                obtain ⟨p1, p2, p3⟩ := HI.out.at_ (Nat.le_refl i) hsl
                have HF := Lib.hid ((HI.out.set hsl true).congr fun x _ => base_yes HV.out hk02 hs x)
                have hsI : (s : Int) < (l.length : Int) := by omega
                have hs0 : (0 : Int) ≤ (s : Int) := by omega
                clear HI hs hk02 HT1 HT2 HL
                go_wp2
                go_meet
                exact ⟨rfl, HF.out⟩
            case rest =>
            obtain ⟨rfl, HI3⟩ := hcut
            clear HI HT1 HT2 HL q0 hkd
            have hwr : IntKind.i64.wrap ((i : Int) - 1) = (i : Int) - 1 := IntWalk.i64_in _ (by omega)
            go_wp2
            go_loopw [13] (fun kv wr => ∃ (c : Nat) (y : Int), c ≤ i ∧ kv = .int .i64 y ∧ y = (c : Int) - 1 ∧ Hid (In w1 l B b0 db rb2 (3 * i + 3) i (stA l (i + 1)) (fun x => dB (cloP l i c x)) wr)) (fun kv _ => (intOf kv + 1).toNat)
            case atStart => exact ⟨i, _, Nat.le_refl i, rfl, rfl, HI3.out.congr fun x _ => (dB_eq (clo_top i x)).symm⟩
            case round =>
              obtain ⟨c3, y, hci, rfl, hy, HI⟩ := hrel
              clear HI3
              rcases Nat.eq_zero_or_pos c3 with rfl | hpos3
              · obtain rfl : y = -1 := by omega
                have HI4 := Lib.hid (HI.out.congr fun x _ => dB_eq (clo_zero i x))
                clear HI hy
                as_aux_lemma =>
                go_wp2
                go_loopw [6, 172] (fun cv kv wr => ∃ (k : Nat) (t : Bool), k ≤ i ∧ kv = .int .i64 k ∧ cv = .bool t ∧ Hid (t = true ↔ Cl l i k) ∧ Hid (In w1 l B b0 db rb2 (3 * i + 3) i (stA l (i + 1)) (fun x => dB (Bef l i x)) wr)) (fun _ kv _ => i - (intOf kv).toNat)
                case atStart => exact ⟨0, cl, Nat.zero_le _, rfl, rfl, HC, HI4.out⟩
                case round =>
                  obtain ⟨k, t, hki, rfl, rfl, HT, HI⟩ := hrel
                  clear HI4
                  by_cases hlk : k < i
                  · as_aux_lemma =>
                    have hkl : k < l.length := by omega
                    obtain ⟨b3, off3, he3, hbb3, xc0, xc1, xc2⟩ := HI.out.src HA.out k _ (List.getElem?_eq_getElem hkl)
                    injection he3 with he3
                    injection he3 with e1 e2
                    subst e1 e2
                    have hx := List.getElem?_eq_getElem hkl
                    generalize l[k] = x at *
                    have hin := HI.out.later (below_new wr (.cells #[.int .i64 x.1.1, .int .i64 x.1.2, .int .i64 x.2] 41))
                    obtain ⟨p1, p2, p3⟩ := hin.at_ (Nat.le_refl i) hkl
                    have hrw : rowsOf l i (fun x => dB (Bef l i x)) i k = dB (Bef l i k) := if_pos rfl
                    rw [hrw] at p2
                    obtain ⟨y0, y1, y2⟩ := wD_cell wr x
                    have q0 := hin.d0
                    have q2 := hin.d2
                    rw [kd_of HG.out] at q0
                    rw [plc_of HG.out] at q2
                    unfold wD at y0 y1 y2
                    have HX := Lib.hid hin
                    have hkI : (k : Int) < (i : Int) := by omega
                    have hk0 : (0 : Int) ≤ (k : Int) := by omega
                    have hklI : (k : Int) < (l.length : Int) := by omega
                    have HCF := Lib.hid (conf_iff hx HG.out hlk HV.out)
                    clear hin hx HI hrw
                    go_upto_region 41 with (fail)
                    generalize wr.alloc (.cells #[.int .i64 x.1.1, .int .i64 x.1.2, .int .i64 x.2] 41) = X at *
                    generalize wr.heap.size = eb at *
                    go_cut [17, 172] from 172 to 236 (fun dv kv wc => kv = .int .i64 (k : Int) ∧ wc = X ∧ ∃ t : Bool, dv = .bool t ∧ Hid (t = true ↔ (d.1.1 = 3 ∨ d.1.1 = 4) ∧ (x.1.1 = 3 ∨ x.1.1 = 4) ∧ (d.1.1 = 4 ∨ x.1.1 = 4)))
                    case first =>
                      clear HCF HT HX xc0 xc1 xc2 p1 p2 p3 y1 y2 q2
                      by_cases d3 : d.1.1 = 3
                      · have d4 : ¬ d.1.1 = 4 := by omega
                        by_cases x3 : x.1.1 = 3
                        · have x4 : ¬ x.1.1 = 4 := by omega
                          go_wp2
                          go_meet
                          exact ⟨rfl, rfl, false, rfl, Lib.hid (by simp [d3, x3])⟩
                        · by_cases x4 : x.1.1 = 4
                          · go_wp2
                            go_meet
                            exact ⟨rfl, rfl, true, rfl, Lib.hid (by simp [d3, x4])⟩
                          · go_wp2
                            go_meet
                            exact ⟨rfl, rfl, false, rfl, Lib.hid (by simp [x3, x4])⟩
                      · by_cases d4 : d.1.1 = 4
                        · by_cases x3 : x.1.1 = 3
                          · go_wp2
                            go_meet
                            exact ⟨rfl, rfl, true, rfl, Lib.hid (by simp [d4, x3])⟩
                          · by_cases x4 : x.1.1 = 4
                            · go_wp2
                              go_meet
                              exact ⟨rfl, rfl, true, rfl, Lib.hid (by simp [d4, x4])⟩
                            · go_wp2
                              go_meet
                              exact ⟨rfl, rfl, false, rfl, Lib.hid (by simp [x3, x4])⟩
                        · go_wp2
                          go_meet
                          exact ⟨rfl, rfl, false, rfl, Lib.hid (by simp [d3, d4])⟩
                    case rest =>
                    obtain ⟨rfl, hwc, u, rfl, HU⟩ := hcut
                    subst hwc
                    have HNO : Hid (t = false → ¬ Conf l i k → (false = true ↔ Cl l i (k + 1))) := fun h hc => by
                      have h1 : ¬ Cl l i k := fun e => by have := HT.out.2 e; rw [h] at this; cases this
                      rw [Cl.step h1]
                      exact ⟨fun e => Bool.noConfusion e, fun e => absurd e.1 hc⟩
                    have HYES : Hid (t = false → Conf l i k → ((!dB (Bef l i k)) = true ↔ Cl l i (k + 1))) := fun h hc => by
                      have h1 : ¬ Cl l i k := fun e => by have := HT.out.2 e; rw [h] at this; cases this
                      rw [Cl.step h1, Bool.not_eq_true', dB_no]
                      exact ⟨fun e => ⟨hc, e⟩, fun e => e.2⟩
                    have HOLD : Hid (t = true → (true = true ↔ Cl l i (k + 1))) := fun h => ⟨fun _ => (HT.out.1 h).old, fun _ => rfl⟩
                    clear HT xc0 xc1 xc2 p3 y0 q0
                    generalize dB (Bef l i k) = bf at *
                    cases t
                    · cases u
                      · have HCL := Lib.hid (HNO.out rfl (fun e => by have := HU.out.2 (HCF.out.1 e).2.2; cases this))
                        clear HNO HYES HOLD HCF HU
                        go_wp2
                        go_roundw
                        case rel => exact ⟨k + 1, false, by omega, by go_num, rfl, HCL, HX⟩
                        case measure => simp [intOf]; omega
                      · by_cases hp : x.2 = d.2
                        · by_cases hw : 0 ≤ x.1.2
                          · by_cases hw2 : x.1.2 ≤ 64
                            · have HCL := Lib.hid (HYES.out rfl (HCF.out.2 ⟨⟨hw, hw2⟩, hp, HU.out.1 rfl⟩))
                              clear HNO HYES HOLD HCF HU
                              go_wp2
                              go_roundw
                              case rel => exact ⟨k + 1, !bf, by omega, by go_num, rfl, HCL, HX⟩
                              case measure => simp [intOf]; omega
                            · have HCL := Lib.hid (HNO.out rfl (fun e => hw2 (HCF.out.1 e).1.2))
                              clear HNO HYES HOLD HCF HU
                              go_wp2
                              go_roundw
                              case rel => exact ⟨k + 1, false, by omega, by go_num, rfl, HCL, HX⟩
                              case measure => simp [intOf]; omega
                          · have HCL := Lib.hid (HNO.out rfl (fun e => hw (HCF.out.1 e).1.1))
                            clear HNO HYES HOLD HCF HU
                            go_wp2
                            go_roundw
                            case rel => exact ⟨k + 1, false, by omega, by go_num, rfl, HCL, HX⟩
                            case measure => simp [intOf]; omega
                        · have HCL := Lib.hid (HNO.out rfl (fun e => hp (HCF.out.1 e).2.1))
                          clear HNO HYES HOLD HCF HU
                          go_wp2
                          go_roundw
                          case rel => exact ⟨k + 1, false, by omega, by go_num, rfl, HCL, HX⟩
                          case measure => simp [intOf]; omega
                    · have HCL := Lib.hid (HOLD.out rfl)
                      clear HNO HYES HOLD HCF HU
                      go_wp2
                      go_roundw
                      case rel => exact ⟨k + 1, true, by omega, by go_num, rfl, HCL, HX⟩
                      case measure => simp [intOf]; omega
                  · obtain rfl : k = i := by omega
                    have HL2 := Lib.hid (In.leave HI.out)
                    have HC2 := Lib.hid (HT.out.trans (Cl.next k))
                    clear HI HT
                    go_wp2
                    go_roundw
                    case rel => exact ⟨k + 1, rb2, ff, t, hlt, by go_num, rfl, rfl, HL2.out, FS, HC2⟩
                    case measure => simp [intOf]; omega
              · obtain ⟨k, rfl⟩ : ∃ k, c3 = k + 1 := ⟨c3 - 1, by omega⟩
                obtain rfl : y = (k : Int) := by omega
                clear hpos3 hy
                as_aux_lemma =>
                have hk0 : (0 : Int) ≤ (k : Int) := by omega
                have hki : (k : Int) < (i : Int) := by omega
                have hkl : k < l.length := by omega
                have hklI : (k : Int) < (l.length : Int) := by omega
                have hwk : IntKind.i64.wrap ((k : Int) - 1) = (k : Int) - 1 := IntWalk.i64_in _ (by omega)
                go_wp2
                go_loopw [14] (fun mv wr => ∃ m : Nat, m ≤ k ∧ mv = .int .i64 m ∧ Hid (dB (cloP l i (k + 1) k) = false → m = 0) ∧ Hid (In w1 l B b0 db rb2 (3 * i + 3) i (stA l (i + 1)) (midB l i k m) wr)) (fun mv _ => k - (intOf mv).toNat)
                case atStart => exact ⟨0, Nat.zero_le _, rfl, fun _ => rfl, HI.out.congr fun x _ => mid_zero i k x⟩
                case round =>
                  obtain ⟨m, hmk, rfl, HZ, HJ⟩ := hrel
                  clear HI
                  obtain ⟨p1, p2, p3⟩ := HJ.out.at_ (Nat.le_refl i) hkl
                  have hrw : rowsOf l i (midB l i k m) i k = dB (cloP l i (k + 1) k) := (if_pos rfl).trans (mid_self hmk)
                  rw [hrw] at p2
                  have hm0 : (0 : Int) ≤ (m : Int) := by omega
                  cases ht : dB (cloP l i (k + 1) k)
                  · have hm := HZ.out ht
                    subst hm
                    rw [ht] at p2
                    have HF := Lib.hid (HJ.out.congr fun x _ => mid_skip ht x)
                    clear HZ HJ ht hrw
                    go_wp2
                    go_roundw
                    case rel => exact ⟨k, (k : Int) - 1, by omega, rfl, rfl, HF.out⟩
                    case measure => simp [intOf]
                  · rw [ht] at p2
                    by_cases hmlt : m < k
                    · have hml : m < l.length := by omega
                      have hmlI : (m : Int) < (l.length : Int) := by omega
                      have hmI : (m : Int) < (k : Int) := by omega
                      obtain ⟨s1, s2, s3⟩ := HJ.out.at_ (Nat.le_refl i) hml
                      obtain ⟨t1, t2, _⟩ := HJ.out.at_ (show k ≤ i by omega) hml
                      have hr1 : rowsOf l i (midB l i k m) i m = midB l i k m m := if_pos rfl
                      have hr2 : rowsOf l i (midB l i k m) k m = dB (Bef l k m) := if_neg (by omega)
                      rw [hr1] at s2
                      rw [hr2] at t2
                      have HF := (((HJ.out.set hml (midB l i k m m || dB (Bef l k m))).congr fun x _ => mid_step ht x).later (Below.refl _ _).drew)
                      have HFF := Lib.hid HF
                      clear HF HJ ht hrw hr1 hr2 HZ
                      generalize midB l i k m m = v1 at *
                      generalize dB (Bef l k m) = v2 at *
                      cases v1
                      · go_wp2
                        go_region
                        go_wp2
                        go_roundw
                        case rel => exact ⟨m + 1, by omega, by go_num, Lib.hid (fun h => Bool.noConfusion h), HFF⟩
                        case measure => simp [intOf]; omega
                      · go_wp2
                        go_region
                        go_wp2
                        go_roundw
                        case rel => exact ⟨m + 1, by omega, by go_num, Lib.hid (fun h => Bool.noConfusion h), HFF⟩
                        case measure => simp [intOf]; omega
                    · have hmI : ¬ (m : Int) < (k : Int) := by omega
                      have HF := Lib.hid (HJ.out.congr fun x _ => mid_end (show k ≤ m by omega) x)
                      clear HZ HJ ht hrw
                      go_wp2
                      go_roundw
                      case rel => exact ⟨k, (k : Int) - 1, by omega, rfl, rfl, HF.out⟩
                      case measure => simp [intOf]
    · as_aux_lemma =>
      obtain rfl : i = l.length := by omega
      have HCL := Lib.hid (Clash_w3 HO.out.w3 (by omega) rfl)
      have hlen := cl_iff (l := l) l.length
      have hfin := Cl.fine (l := l) (by omega)
      have HBW := Lib.hid (Below.next HB1.out HO.out.w3.below)
      have hcf : cl = !f := bool_not ((HC.out.trans hfin).trans (not_congr HF.out.symm))
      subst hcf
      have hcl0 : f = true ↔ (stA l l.length).cl.length = 0 := by rw [List.length_eq_zero_iff, hlen]; exact HF.out
      generalize (stA l l.length).cl.length = q at *
      clear hlen hfin HF HC
      cases f
      · have hq : (0 : Int) < (q : Int) := by
          have : q ≠ 0 := fun e => by cases hcl0.2 e
          omega
        go_wp2_with fail
        refine HCL.out.mono ?_
        rintro e w4 ⟨A4, c4, rfl, hb4⟩
        have HE := Lib.hid (Below.next HBW.out hb4)
        clear hb4
        go_wp2
        go_ret
        exact ⟨ret_bool (by simp; omega), HE.out⟩
      · have hq : q = 0 := hcl0.1 rfl
        subst hq
        go_wp2_with fail
        refine HCL.out.mono ?_
        rintro e w4 ⟨A4, c4, rfl, hb4⟩
        have HE := Lib.hid (Below.next HBW.out hb4)
        clear hb4
        go_wp2
        go_ret
        exact ⟨rfl, HE.out⟩
end Go.Proofs.Ytabcnmpnjnegdaa
