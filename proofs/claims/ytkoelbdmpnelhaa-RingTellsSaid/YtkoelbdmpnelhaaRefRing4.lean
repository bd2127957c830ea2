/- The document's ring (ganglionref23), by contract, fourth part: Do, New, Locks. -/
import Derived.Test.YtkoelbdmpnelhaaRefRing2
namespace Go.Proofs.Ytkoelbdmpnelhaa
open Go.RowKit

set_option maxRecDepth 100000 in
set_option maxHeartbeats 4000000 in
theorem rfDo_any {ws : List Int} {l : List OpG} {c d : Nat} {A X : Option Addr} {w : World} {B B' : Nat} (hA : Rd (Value.int .u64) w B A ws) (hB : B ≤ w.heap.size) (hl : ws.length ≤ 100000) (hX : RdG w B' X l) (hB' : B' ≤ w.heap.size) (hll : l.length ≤ 100000) :
    Calls Try.prog 67 #[.slice A ws.length c, .slice X l.length d] w (WordsNew (doG ws l) w) := by
  obtain ⟨i0, hi0, hz0, hz1, hz2⟩ := info_parts info_u64r
  have HX := Lib.hid hX
  have hb0 : ∀ o, Below w.heap.size w (w.alloc o) := fun o => (Below.refl _ w).alloc (Nat.le_refl _) o
  have hA2 := hA.more hB
  clear hA hB hX
  go_enter Try.func67, Try.ntmps67
  go_upto_region 1 with (fail)
  go_cut [5] (fun v wx => ∃ A1 c1, v = .slice A1 ws.length c1 ∧ wx.ownsRow w.heap.size 101 1 (.slice A1 ws.length c1) ws.length (u64s ws) ∧ Below w.heap.size w wx)
  case first =>
    cases A with
    | none =>
      have hn := wnone hA2
      subst hn
      have hmade : (w.alloc (.cells #[] 101)).ownsRow w.heap.size 101 1 (.slice (some ⟨w.heap.size, 0, none⟩) 0 0) 0 (u64s []) := World.ownsRow_made w #[] 0 (Nat.le_refl _) (Nat.zero_le _) rfl
      go_wp2
      go_meet
      exact ⟨_, _, rfl, hmade, hb0 _⟩
    | some ad =>
      go_wp2_with (at_builtin; refine wpList_append_own _ rfl _ _ 88 rfl w.heap.size 101 i0 (.int .u64 0) 1 8 Try.underlying88 hi0 hz0 hz1 hz2 rfl (by decide) _ _ _ rfl (World.ownsRow_made w #[] 0 (Nat.le_refl _) (Nat.zero_le _) rfl) ad ws.length c (u64s ws) rfl ?c1 ?c2 u64s_one ?c3 ?c4 ?c5 ?_)
      case c1 => simp [u64s]
      case c2 => exact wnews (hA2.below (hb0 _))
      case c3 => unfold maxLen; omega
      case c4 => omega
      case c5 => simp
      intro v' w1 hown hgrow _
      have hown2 : w1.ownsRow w.heap.size 101 1 v' ws.length (u64s ws) := by simpa using hown
      have hB : Below w.heap.size w w1 := (hb0 _).grown hgrow (by simp) (by intro k hk; simp [Value.ownBlock] at hk; omega)
      obtain ⟨A2, c2, rfl, _, _⟩ := ownSlice hown2
      clear hown hgrow
      go_wp2
      go_meet
      exact ⟨A2, c2, rfl, hown2, hB⟩
  case rest =>
    obtain ⟨A1, c1, rfl, hown1, hb1⟩ := hcut
    have HO1 := Lib.hid hown1
    have HB1 := Lib.hid hb1
    clear hown1 hb1 hb0 hA2 hi0 hz0 hz1 hz2
    go_wp2
    go_loopw [15] (fun i wr => ∃ k : Nat, k ≤ l.length ∧ i = .int .i64 (k : Int) ∧ wr.ownsRow w.heap.size 101 1 (.slice A1 ws.length c1) ws.length (u64s (doG ws (l.take k))) ∧ Below w.heap.size w wr) (fun i _ => l.length - (intOf i).toNat)
    case atStart => exact ⟨0, Nat.zero_le _, rfl, HO1.out, HB1.out⟩
    case round =>
      obtain ⟨k, hk, rfl, hown, hbel⟩ := hrel
      by_cases hlt : k < l.length
      · have hkl : (k : Int) < (l.length : Int) := by omega
        have hk0 : (0 : Int) ≤ (k : Int) := by omega
        have HT := Lib.hid (doG_take (ws := ws) (List.getElem?_eq_getElem hlt))
        have HLEN := Lib.hid (doG_len (l.take k) ws)
        obtain ⟨b, off, rfl, hbl, hc⟩ := (HX.out.below (hbel.mono hB')) k _ (List.getElem?_eq_getElem hlt)
        have HC := Lib.hid hc
        clear hc
        have HOW := Lib.hid hown
        have HBL := Lib.hid hbel
        clear hown hbel
        generalize l[k] = o at *
        obtain ⟨ok, oa, ob, on, om, oid, lA, ln, lc, oi, vA, vn, vc, tg⟩ := o
        have q0 : wr.cell? ⟨b, off + k * 10, none⟩ = some (.int .i64 ok) := HC.out 0 _ rfl
        have q1 : wr.cell? ⟨b, off + k * 10 + 1, none⟩ = some (.int .i64 oa) := HC.out 1 _ rfl
        have q2 : wr.cell? ⟨b, off + k * 10 + 2, none⟩ = some (.int .i64 ob) := HC.out 2 _ rfl
        have q3 : wr.cell? ⟨b, off + k * 10 + 3, none⟩ = some (.int .i64 on) := HC.out 3 _ rfl
        have q4 : wr.cell? ⟨b, off + k * 10 + 4, none⟩ = some (.int .i64 om) := HC.out 4 _ rfl
        have q5 : wr.cell? ⟨b, off + k * 10 + 5, none⟩ = some (.int .u64 oid) := HC.out 5 _ rfl
        have q6 : wr.cell? ⟨b, off + k * 10 + 6, none⟩ = some (.slice lA ln lc) := HC.out 6 _ rfl
        have q7 : wr.cell? ⟨b, off + k * 10 + 7, none⟩ = some (.int .u64 oi) := HC.out 7 _ rfl
        have q8 : wr.cell? ⟨b, off + k * 10 + 8, none⟩ = some (.slice vA vn vc) := HC.out 8 _ rfl
        have q9 : wr.cell? ⟨b, off + k * 10 + 9, none⟩ = some (.int .u64 tg) := HC.out 9 _ rfl
        have hbx := Bx.new wr (cellG ⟨ok, oa, ob, on, om, oid, lA, ln, lc, oi, vA, vn, vc, tg⟩) 106
        have HPR := Lib.hid (refPutRing_any on om (wr.alloc (.cells #[.int .i64 ok, .int .i64 oa, .int .i64 ob, .int .i64 on, .int .i64 om, .int .u64 oid, .slice lA ln lc, .int .u64 oi, .slice vA vn vc, .int .u64 tg] 106)))
        unfold PairOut at HPR
        have HOA := Lib.hid (HOW.out.alloc (.cells #[.int .i64 ok, .int .i64 oa, .int .i64 ob, .int .i64 on, .int .i64 om, .int .u64 oid, .slice lA ln lc, .int .u64 oi, .slice vA vn vc, .int .u64 tg] 106))
        have HBA := Lib.hid (HBL.out.alloc HBL.out.size (.cells #[.int .i64 ok, .int .i64 oa, .int .i64 ob, .int .i64 on, .int .i64 om, .int .u64 oid, .slice lA ln lc, .int .u64 oi, .slice vA vn vc, .int .u64 tg] 106))
        have HBX := Lib.hid hbx
        clear HC HOW HBL hbx
        have HPW : Hid (doG ws (l.take (k + 1)) = if ok = 12 ∧ (ringS on om).2 = 0 ∧ 0 ≤ oa ∧ oa < ws.length then (doG ws (l.take k)).set oa.toNat (ringS on om).1 else doG ws (l.take k)) := Lib.hid (by
          rw [HT.out]
          unfold stepG putW
          simp only [HLEN.out]
          by_cases e1 : ok = 12
          · by_cases e2 : (0 ≤ oa ∧ oa < (ws.length : Int)) ∧ (ringS on om).2 = 0
            · rw [if_pos e1, if_pos e2, if_pos ⟨e1, e2.2, e2.1.1, e2.1.2⟩]
            · rw [if_pos e1, if_neg e2, if_neg (fun h => e2 ⟨⟨h.2.2.1, h.2.2.2⟩, h.2.1⟩)]
          · rw [if_neg e1, if_neg (fun h => e1 h.1)])
        generalize ringS on om = rr at *
        obtain ⟨rv, ry⟩ := rr
        simp only at HPR HPW
        go_wp2_with fail
        refine HPR.out.mono ?_
        rintro e w2 ⟨rfl, hb2⟩
        have hx0 : w2.cell? ⟨wr.heap.size, 0, none⟩ = some (.int .i64 ok) := (HBX.out.below hb2).c 0 _ rfl
        have hx1 : w2.cell? ⟨wr.heap.size, 1, none⟩ = some (.int .i64 oa) := (HBX.out.below hb2).c 1 _ rfl
        have HO2 := Lib.hid (ownsRow_same HOA.out (fun g hg => hb2.block g (HOA.out.lt g hg).2))
        have HB2 := Lib.hid (Below.next HBA.out hb2)
        clear hb2 HPR HOA HBA HBX q0 q1 q2 q3 q4 q5 q6 q7 q8 q9
        by_cases hall : ok = 12 ∧ ry = 0 ∧ 0 ≤ oa ∧ oa < (ws.length : Int)
        · rw [if_pos hall] at HPW
          obtain ⟨rfl, rfl, ha0, ha1⟩ := hall
          obtain ⟨j, rfl⟩ : ∃ j : Nat, oa = (j : Int) := ⟨oa.toNat, by omega⟩
          have hj : j < ws.length := by omega
          have hown2 := HO2.out
          obtain ⟨g, rfl, hg1, hg2⟩ := ownPos hown2 (by omega)
          have HC2 := Lib.hid (hown2.stored j (.int .u64 rv)).1
          rcases hown2.2 with ⟨hv, _⟩ | ⟨g', cap, cur, hv, _, hh, hc1, hc2, hc3, hc4⟩
          · injection hv with hv; cases hv
          · injection hv with hv hv1 hv2
            injection hv with hv
            injection hv with hv
            subst hv hv2
            have hlt2 : j < cur.size := by omega
            have hcell : w2.cell? ⟨g, j, none⟩ = some cur[j] := (cell_of_row _ _ j _ _ (0, 0) hh).trans (Array.getElem?_eq_getElem hlt2)
            have hfr : w2.frozen? ⟨g, j, none⟩ = false := by simp only [World.frozen?]; rw [hh]; simp
            have HF : Hid ((w2.setCell ⟨g, j, none⟩ (.int .u64 rv)).ownsRow w.heap.size 101 1 (.slice (some ⟨g, 0, none⟩) ws.length c1) ws.length (u64s (doG ws (l.take (k + 1))))) := Lib.hid (by
              rw [HPW.out]
              unfold u64s
              rw [List.map_set, show (j : Int).toNat = j from rfl]
              exact HC2.out)
            have HBF := Lib.hid (HB2.out.setCell (p := ⟨g, j, none⟩) hg1 (.int .u64 rv))
            clear hown2 hh hc4 hc3 HC2 HO2 HPW HB2 HT
            go_wp2
            go_roundw
            case rel => exact ⟨k + 1, by omega, by go_num, HF.out, HBF.out⟩
            case measure => simp [intOf]; omega
        · rw [if_neg hall] at HPW
          have HF : Hid (w2.ownsRow w.heap.size 101 1 (.slice A1 ws.length c1) ws.length (u64s (doG ws (l.take (k + 1))))) := Lib.hid (by rw [HPW.out]; exact HO2.out)
          have hw : (ok == 12) = false ∨ (ok = 12 ∧ (ry == 0) = false) ∨ (ok = 12 ∧ ry = 0 ∧ oa < 0) ∨ (ok = 12 ∧ ry = 0 ∧ 0 ≤ oa ∧ (ws.length : Int) ≤ oa) := by
            rw [beq_eq_false_iff_ne, beq_eq_false_iff_ne]
            omega
          clear HPW HO2 hall HT
          rcases hw with h1 | ⟨rfl, h1⟩ | ⟨rfl, rfl, h1⟩ | ⟨rfl, rfl, h1, h2⟩
          all_goals
            go_wp2
            go_roundw
            case rel => exact ⟨k + 1, by omega, by go_num, HF.out, HB2.out⟩
            case measure => simp [intOf]; omega
      · obtain rfl : k = l.length := by omega
        rw [List.take_length] at hown
        have HF : Hid (WordsNew (doG ws l) w (.returned (.slice A1 ws.length c1)) wr) := Lib.hid ⟨A1, c1, by rw [doG_len], by rw [doG_len]; exact hown, hbel⟩
        clear hown hbel
        go_wp2
        go_ret
        exact HF.out
end Go.Proofs.Ytkoelbdmpnelhaa
