/- LittleTells, the walk of the law: program and answer are held side by side, reading by reading. -/
import Derived.Test.YtbedlaggmlckdaaLitLives
import Derived.Test.YtbedlaggmlckdaaLitWord
namespace Go.Proofs.Ytbedlaggmlckdaa
open Go.RowKit

theorem numStep_size (s : ByteArray) (y : Nat) : (numStep s y).2.1.size ≤ s.size := by
  unfold numStep
  split
  · split
    · exact restB_size _ _
    · exact Nat.le_refl _
  · exact Nat.le_refl _
theorem textR_size (s : ByteArray) : (textR s).2.1.size ≤ s.size := by
  have h := restB_size s (numL s.data.toList)
  unfold textR
  split
  · split
    · exact Nat.zero_le _
    · split
      · exact Nat.zero_le _
      · show ByteArray.size (ByteArray.extract _ _ _) ≤ _
        rw [ByteArray.size_extract]
        omega
  · exact Nat.zero_le _
theorem textStep_size (s : ByteArray) (y : Nat) : (textStep s y).2.1.size ≤ s.size := by
  unfold textStep
  split
  · split
    · exact textR_size _
    · exact Nat.le_refl _
  · exact Nat.le_refl _

/-- The document's state lies in block c; a call came back in new memory, and its state is laid there. -/
theorem laid {wr w1 : World} {b c : Nat} {s t : ByteArray} {y z : Nat} {T : TypeId} (hr : RdAt wr b s y) (hx : RdAt wr c s y) (hne : b ≠ c) (hb : Below wr.heap.size wr w1) :
    (∀ O, (w1.alloc O).cell? ⟨c, 0, none⟩ = some (.string s)) ∧ (∀ O, (w1.alloc O).cell? ⟨c, 1, none⟩ = some (.int .i64 y)) ∧
    (∀ C T, (w1.alloc (.cells C T)).frozen? ⟨c, 0, none⟩ = false) ∧ (∀ C T, (w1.alloc (.cells C T)).frozen? ⟨c, 1, none⟩ = false) ∧
    RdAt (((w1.alloc (.cells #[.string t, .int .i64 z] T)).setCell ⟨c, 0, none⟩ (.string t)).setCell ⟨c, 1, none⟩ (.int .i64 z)) b s y ∧
    RdAt (((w1.alloc (.cells #[.string t, .int .i64 z] T)).setCell ⟨c, 0, none⟩ (.string t)).setCell ⟨c, 1, none⟩ (.int .i64 z)) c t z ∧
    (∀ B, B ≤ c → B ≤ wr.heap.size → Below B wr (((w1.alloc (.cells #[.string t, .int .i64 z] T)).setCell ⟨c, 0, none⟩ (.string t)).setCell ⟨c, 1, none⟩ (.int .i64 z))) := by
  have hr1 := hr.below hb hr.block
  have hx1 := hx.below hb hx.block
  have lb : b < w1.heap.size := hr1.block
  have lc : c < w1.heap.size := hx1.block
  have cb : ∀ O o, (w1.alloc O).cell? ⟨b, o, none⟩ = w1.cell? ⟨b, o, none⟩ := fun O o => World.cell?_alloc_lt w1 O ⟨b, o, none⟩ lb
  have cc : ∀ O o, (w1.alloc O).cell? ⟨c, o, none⟩ = w1.cell? ⟨c, o, none⟩ := fun O o => World.cell?_alloc_lt w1 O ⟨c, o, none⟩ lc
  have fr : ∀ C T b o, (w1.alloc (.cells C T)).frozen? ⟨b, o, none⟩ = w1.frozen? ⟨b, o, none⟩ := fun C T b o => frozen?_alloc_cells w1 C T ⟨b, o, none⟩
  have nb : ∀ o o', (⟨c, o, none⟩ : Addr) ≠ ⟨b, o', none⟩ := fun o o' e => hne (by injection e with e; exact e.symm)
  refine ⟨fun O => (cc O 0).trans hx1.1, fun O => (cc O 1).trans hx1.2.1, fun C T => (fr C T c 0).trans hx1.2.2.1, fun C T => (fr C T c 1).trans hx1.2.2.2, ?_, ?_, ?_⟩
  · refine ⟨?_, ?_, ?_, ?_⟩
    · exact (World.cell?_setCell_other _ _ _ _ (nb _ _)).trans ((World.cell?_setCell_other _ _ _ _ (nb _ _)).trans ((cb _ 0).trans hr1.1))
    · exact (World.cell?_setCell_other _ _ _ _ (nb _ _)).trans ((World.cell?_setCell_other _ _ _ _ (nb _ _)).trans ((cb _ 1).trans hr1.2.1))
    · simpa using (fr _ _ b 0).trans hr1.2.2.1
    · simpa using (fr _ _ b 1).trans hr1.2.2.2
  · refine ⟨?_, ?_, ?_, ?_⟩
    · exact (World.cell?_setCell_other _ _ _ _ (by simp)).trans (World.cell?_setCell_same _ _ _ ((cc _ 0).trans hx1.1))
    · exact World.cell?_setCell_same _ _ _ ((World.cell?_setCell_other _ _ _ _ (by simp)).trans ((cc _ 1).trans hx1.2.1))
    · simpa using (fr _ _ c 0).trans hx1.2.2.1
    · simpa using (fr _ _ c 1).trans hx1.2.2.2
  · intro B h1 h2
    exact (((hb.mono h2).alloc (Nat.le_trans h2 hb.size) _).setCell h1 _).setCell h1 _

theorem RdAt.alloc {w : World} {b : Nat} {s : ByteArray} {y : Nat} (h : RdAt w b s y) (C : Array Value) (T : TypeId) : RdAt (w.alloc (.cells C T)) b s y :=
  ⟨(World.cell?_alloc_lt w _ ⟨b, 0, none⟩ h.block).trans h.1, (World.cell?_alloc_lt w _ ⟨b, 1, none⟩ h.block).trans h.2.1, (frozen?_alloc_cells w C T _).trans h.2.2.1, (frozen?_alloc_cells w C T _).trans h.2.2.2⟩
theorem RdAt.new (w : World) (s : ByteArray) (y : Nat) (T : TypeId) : RdAt (w.alloc (.cells #[.string s, .int .i64 y] T)) w.heap.size s y :=
  ⟨by go_cell, by go_cell, by go_simp, by go_simp⟩
theorem RdAt.draws {w : World} {b : Nat} {s : ByteArray} {y : Nat} (h : RdAt w b s y) (n : Nat) : RdAt (w.drewN n) b s y := h

set_option maxRecDepth 100000 in
set_option maxHeartbeats 4000000 in
theorem LittleTells_walk (n : BitVec 64) (s bytes : ByteArray) (A : Option Addr) (zs : List Int) (c : Nat) (w : World)
    (hs : s.size ≤ maxLen) (hbs : bytes.size ≤ maxLen) (hA : Rd (Value.int .u8) w w.heap.size A zs) (hl : zs.length ≤ 9223372036854775807) (hz : Hid (∀ z ∈ zs, 0 ≤ z ∧ z ≤ 255)) :
    Calls Try.prog 6 #[.int .u64 n.toNat, .string s, .string bytes, .slice A zs.length c] w fun e w' => e = .returned (.bool true) ∧ Below w.heap.size w w' := by
  have hn := Lib.hid n.isLt
  generalize n.toNat = N at *
  unfold maxLen at hs hbs
  by_cases h1 : 5000 < s.size
  · have hi : (5000 : Int) < (s.size : Int) := by omega
    go_enter Try.func6, Try.ntmps6
    go_wp2_with fail
    refine (lit_lives_any _).mono ?_
    rintro e w1 ⟨rfl, hb⟩
    go_wp2
    go_ret
    exact ⟨rfl, hb⟩
  · have hi : (s.size : Int) ≤ 5000 := by omega
    by_cases h2 : 5000 < bytes.size
    · have hj : (5000 : Int) < (bytes.size : Int) := by omega
      go_enter Try.func6, Try.ntmps6
      go_wp2_with fail
      refine (lit_lives_any _).mono ?_
      rintro e w1 ⟨rfl, hb⟩
      go_wp2
      go_ret
      exact ⟨rfl, hb⟩
    · have hj : (bytes.size : Int) ≤ 5000 := by omega
      by_cases h3 : 60 < zs.length
      · have hk : (60 : Int) < (zs.length : Int) := by omega
        go_enter Try.func6, Try.ntmps6
        go_wp2_with fail
        refine (lit_lives_any _).mono ?_
        rintro e w1 ⟨rfl, hb⟩
        go_wp2
        go_ret
        exact ⟨rfl, hb⟩
      · have hk : (zs.length : Int) ≤ 60 := by omega
        clear h1 h2 h3
        have d1 : decide ((5000 : Int) < (s.size : Int)) = false := decide_eq_false (by omega)
        have d2 : decide ((5000 : Int) < (bytes.size : Int)) = false := decide_eq_false (by omega)
        have d3 : decide ((60 : Int) < (zs.length : Int)) = false := decide_eq_false (by omega)
        go_enter Try.func6, Try.ntmps6
        go_wp2_with fail
        refine (New_any bytes _).mono ?_
        rintro e w1 ⟨rfl, hr, hsz, hb⟩
        go_wp2
        go_loopw [39] (fun i wr => ∃ (k : Nat) (t : ByteArray) (y : Nat), k ≤ zs.length ∧ i = .int .i64 k ∧ t.size ≤ 5000 ∧ RdAt wr w.heap.size t y ∧ RdAt wr (w.heap.size + 1) t y ∧ Below w.heap.size w wr)
          (fun i _ => zs.length - (intOf i).toNat)
        case atStart =>
          have hx := RdAt.new w1 bytes 0 39
          rw [hsz] at hx
          exact ⟨0, bytes, 0, by omega, rfl, by omega, hr.alloc _ _, hx, hb.alloc (by omega) _⟩
        case round =>
          obtain ⟨k, t, y, hkl, rfl, ht, hr, hx, hbel⟩ := hrel
          by_cases hlt : k < zs.length
          · obtain ⟨b, off, rfl, hbb, hc⟩ := (hA.below hbel).at_ hlt
            have hzr := hz.out _ (List.getElem_mem hlt)
            generalize zs[k] = z at hc hzr
            obtain ⟨hz0, hz1⟩ := hzr
            have hkz : (k : Int) < (zs.length : Int) := by omega
            by_cases hev : z % 2 = 0
            · have hee : ((z : Int) % 2 == 0) = true := by simp [hev]
              clear hev
              have hsz2 := numStep_size t y
              have xa := hx.1
              have xb := hx.2.1
              go_wp2_with fail
              refine (Next_any t y _ (by unfold maxLen; omega)).mono ?_
              rintro e w2 ⟨rfl, hb2⟩
              obtain ⟨q, hq⟩ : ∃ q, numStep t y = q := ⟨_, rfl⟩
              rw [hq]
              rw [hq] at hsz2
              obtain ⟨v, t2, y2⟩ := q
              have HQ := Lib.hid hq
              clear hq
              obtain ⟨X0, X1, F0, F1, hr2, hx2, hbl⟩ := laid (t := t2) (z := y2) (T := 39) hr hx (by omega) hb2
              have hB2 := hbel.trans (hbl w.heap.size (by omega) hbel.size)
              have HR2 := Lib.hid hr2
              have HX2 := Lib.hid hx2
              clear hr2 hx2 hbl hb2 hr hx hbel xa xb
              go_wp2_with fail
              refine (Num_any w.heap.size t y _ HR2.out (by unfold maxLen; omega)).mono ?_
              rintro e w3 ⟨rfl, hr3, hT⟩
              rw [HQ.out]
              rw [HQ.out] at hr3
              have hx3 := hT.other (c := w.heap.size + 1) (by omega) HX2.out
              have hB3 := hB2.trans (hT.below (Nat.le_refl _))
              clear hT hB2 HR2 HX2 X0 X1 F0 F1
              have HW := Lib.hid (fun n => Why_any w.heap.size t2 y2 (w3.drewN n) (hr3.draws n))
              have HL := Lib.hid (fun n => Left_any w.heap.size t2 y2 (w3.drewN n) (hr3.draws n))
              have HR3 := Lib.hid hr3
              have HX3 := Lib.hid hx3
              obtain ⟨x0, x1, g0, g1⟩ := hx3
              clear hr3
              have hsz3 : t2.size ≤ 5000 := Nat.le_trans hsz2 ht
              clear hsz2
              go_wp2
              go_quiet ((first | (go_at_call 30; exact quiet_same (HW.out _)) | (go_at_call 31; exact quiet_same (HL.out _))))
              go_wp2
              go_roundw
              case rel => exact ⟨k + 1, t2, y2, by omega, by go_num, hsz3, HR3.out.draws _, HX3.out.draws _, hB3.trans (below_draws _ _ _)⟩
              case measure => simp [intOf]; omega
            · have hee : ((z : Int) % 2 == 0) = false := by simp [hev]
              clear hev
              have hsz2 := textStep_size t y
              have xa := hx.1
              have xb := hx.2.1
              go_wp2_with fail
              refine (Word_any t y _ (by unfold maxLen; omega)).mono ?_
              rintro e w2 ⟨rfl, hb2⟩
              obtain ⟨q, hq⟩ : ∃ q, textStep t y = q := ⟨_, rfl⟩
              rw [hq]
              rw [hq] at hsz2
              obtain ⟨v, t2, y2⟩ := q
              have HQ := Lib.hid hq
              clear hq
              obtain ⟨X0, X1, F0, F1, hr2, hx2, hbl⟩ := laid (t := t2) (z := y2) (T := 39) hr hx (by omega) hb2
              have hB2 := hbel.trans (hbl w.heap.size (by omega) hbel.size)
              have HR2 := Lib.hid hr2
              have HX2 := Lib.hid hx2
              clear hr2 hx2 hbl hb2 hr hx hbel xa xb
              go_wp2_with fail
              refine (Text_any w.heap.size t y _ HR2.out (by unfold maxLen; omega)).mono ?_
              rintro e w3 ⟨rfl, hr3, hT⟩
              rw [HQ.out]
              rw [HQ.out] at hr3
              have hx3 := hT.other (c := w.heap.size + 1) (by omega) HX2.out
              have hB3 := hB2.trans (hT.below (Nat.le_refl _))
              clear hT hB2 HR2 HX2 X0 X1 F0 F1
              have HW := Lib.hid (fun n => Why_any w.heap.size t2 y2 (w3.drewN n) (hr3.draws n))
              have HL := Lib.hid (fun n => Left_any w.heap.size t2 y2 (w3.drewN n) (hr3.draws n))
              have HR3 := Lib.hid hr3
              have HX3 := Lib.hid hx3
              obtain ⟨x0, x1, g0, g1⟩ := hx3
              clear hr3
              have hsz3 : t2.size ≤ 5000 := Nat.le_trans hsz2 ht
              clear hsz2
              go_wp2
              go_quiet ((first | (go_at_call 30; exact quiet_same (HW.out _)) | (go_at_call 31; exact quiet_same (HL.out _))))
              go_wp2
              go_roundw
              case rel => exact ⟨k + 1, t2, y2, by omega, by go_num, hsz3, HR3.out.draws _, HX3.out.draws _, hB3.trans (below_draws _ _ _)⟩
              case measure => simp [intOf]; omega
          · clear hr hx
            have HN := Lib.hid (fun w => litNum_any N w (by have := hn.out; omega))
            have HRN := Lib.hid (fun w => ref_Num_any N w (by have := hn.out; omega))
            have HT := Lib.hid (fun w => litText_any s w (by omega))
            have HRT := Lib.hid (fun w => ref_Text_any s w (by omega))
            generalize bs (bytesN N) = nb at *
            generalize bs (bytesN s.size ++ s.data.toList) = tb at *
            have HS := Lib.hid (fun w => Sum_any s w (by unfold maxLen; omega))
            have HRS := Lib.hid (fun w => ref_Sum_any s w (by unfold maxLen; omega))
            generalize sumL s.data.toList 2166136261 = su at *
            go_wp2_with fail
            refine (lit_lives_any _).mono ?_
            rintro e w2 ⟨rfl, hb⟩
            have hB2 := hbel.trans (hb.mono hbel.size)
            clear hb hbel
            go_wp2_with fail
            refine (HN.out _).mono ?_
            rintro e w3 ⟨rfl, hb⟩
            have hB3 := hB2.trans (hb.mono hB2.size)
            clear hb hB2
            go_wp2_with fail
            refine (HRN.out _).mono ?_
            rintro e w4 ⟨rfl, hb⟩
            have hB4 := hB3.trans (hb.mono hB3.size)
            clear hb hB3
            go_wp2_with fail
            refine (HT.out _).mono ?_
            rintro e w5 ⟨rfl, hb⟩
            have hB5 := hB4.trans (hb.mono hB4.size)
            clear hb hB4
            go_wp2_with fail
            refine (HRT.out _).mono ?_
            rintro e w6 ⟨rfl, hb⟩
            have hB6 := hB5.trans (hb.mono hB5.size)
            clear hb hB5
            go_wp2_with fail
            refine (HS.out _).mono ?_
            rintro e w' ⟨rfl, rfl⟩
            go_wp2_with fail
            refine (HRS.out _).mono ?_
            rintro e w' ⟨rfl, rfl⟩
            go_wp2
            go_ret
            exact ⟨rfl, hB6⟩

end Go.Proofs.Ytbedlaggmlckdaa
