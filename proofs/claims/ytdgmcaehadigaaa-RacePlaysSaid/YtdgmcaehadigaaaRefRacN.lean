/- The document's watch (ganglionref18), by contract: without. -/
import Derived.Test.YtdgmcaehadigaaaRefRac5
import Derived.Deep.AppendLies
namespace Go.Proofs.Ytdgmcaehadigaaa
open Go.RowKit

theorem info_note : (Try.prog.info? 131).map (fun i => (i.zero, i.size, i.bytes)) = some (some (.agg #[.int .i64 0, .int .i64 0, .int .i64 0]), 3, 24) := by kernel_rfl
theorem butD_take {L : List NT} {d : Int} {k : Nat} {z : NT} (hz : L[k]? = some z) : butD (L.take (k + 1)) d = butD (L.take k) d ++ (if z.1.1 = d then [] else [z]) := by
  unfold butD
  rw [List.take_add_one, hz, List.filter_append]
  by_cases e : z.1.1 = d
  · simp [e]
  · simp [e]
theorem butR_take {L : List NT} {d : Int} {q k : Nat} {z : NT} (hz : L[k]? = some z) : butR (L.take (k + 1)) d q = butR (L.take k) d q ++ (if z.1.1 = d ∧ z.1.2 = (q : Int) then [] else [z]) := by
  unfold butR
  rw [List.take_add_one, hz, List.filter_append]
  by_cases e : z.1.1 = d
  · by_cases e2 : z.1.2 = (q : Int)
    · simp [e, e2]
    · simp [e, e2]
  · simp [e]
theorem butD_len (L : List NT) (d : Int) (k : Nat) : (butD (L.take k) d).length ≤ k := by
  unfold butD
  have h1 := List.length_filter_le (fun n : NT => !decide (n.1.1 = d)) (L.take k)
  rw [List.length_take] at h1
  omega
theorem butR_len (L : List NT) (d : Int) (q k : Nat) : (butR (L.take k) d q).length ≤ k := by
  unfold butR
  have h1 := List.length_filter_le (fun n : NT => !(decide (n.1.1 = d) && decide (n.1.2 = (q : Int)))) (L.take k)
  rw [List.length_take] at h1
  omega
/-- Notes in a row of the call's own. -/
def NtOut (w : World) (L : List NT) (e : Ending) (w' : World) : Prop := ∃ A c, e = .returned (.slice A L.length c) ∧ w'.ownsRow w.heap.size 131 3 (.slice A L.length c) L.length (cellsN L) ∧ Below w.heap.size w w'
set_option maxRecDepth 100000 in
set_option maxHeartbeats 4000000 in
theorem RWithout_any {w : World} {S : Nat → Prop} {A : Option Addr} {L : List NT} {l c : Nat} (h : RdG S w A (cellsN L)) (hl : L.length = l) (few : l ≤ 1000) (d : Int) :
    Calls Try.prog 81 #[.slice A l c, .int .i64 d] w (NtOut w (butD L d)) := by
  subst hl
  obtain ⟨i1, hj0, hj1, hj2, hj3⟩ := info_parts info_note
  have HL := Lib.hid h
  have HS := Lib.hid (fun k z h => butD_take (L := L) (d := d) (k := k) (z := z) h)
  have HLN := Lib.hid (fun k => butD_len L d k)
  have H0 : Hid (butD (L.take 0) d = []) := Lib.hid rfl
  have HA : Hid (butD (L.take L.length) d = butD L d) := Lib.hid (by rw [List.take_length])
  clear h
  go_enter Try.func81, Try.ntmps81
  go_wp2
  go_loopw [5, 10] (fun s i wr => ∃ (k : Nat) (R : List NT), k ≤ L.length ∧ i = .int .i64 (k : Int) ∧ Below w.heap.size w wr ∧ wr.ownsRow w.heap.size 131 3 s R.length (cellsN R) ∧ Hid (butD (L.take k) d = R)) (fun _ i _ => L.length - (intOf i).toNat)
  case atStart => exact ⟨0, [], Nat.zero_le _, rfl, Below.refl _ _, World.ownsRow_nil _ _ _ _, H0⟩
  case round =>
    obtain ⟨k, R, hk, rfl, hbel, ho, HR⟩ := hrel
    have hln : R.length ≤ k := by have := HLN.out k; rw [HR.out] at this; exact this
    obtain ⟨A4, c4, rfl, _, _⟩ := ownSlice ho
    by_cases hlt : k < L.length
    · obtain ⟨bb, off, rfl, hbb, q0, q1, q2⟩ := (HL.out.below hbel).nt (List.getElem?_eq_getElem hlt)
      have hst := HS.out k _ (List.getElem?_eq_getElem hlt)
      rw [HR.out] at hst
      generalize L[k] = z at *
      obtain ⟨⟨zp, zw⟩, zt⟩ := z
      simp only at q0 q1 q2 hst
      have hkl : (k : Int) < (L.length : Int) := by omega
      have hk0 : (0 : Int) ≤ (k : Int) := by omega
      have HQ := Lib.hid (Bx.new wr [.int .i64 zp, .int .i64 zw, .int .i64 zt] 131)
      have HBX := Lib.hid (hbel.alloc hbel.size (.cells #[.int .i64 zp, .int .i64 zw, .int .i64 zt] 131))
      have HO := Lib.hid (ho.alloc (.cells #[.int .i64 zp, .int .i64 zw, .int .i64 zt] 131))
      have hsz := hbel.size
      clear hbel ho HR
      by_cases e : zp = d
      · rw [if_pos e, List.append_nil] at hst
        have HN := Lib.hid hst
        clear hst
        subst e
        go_wp2
        go_roundw
        case rel => exact ⟨k + 1, R, by omega, by go_num, HBX.out, HO.out, HN⟩
        case measure => simp [intOf]; omega
      · rw [if_neg e] at hst
        have HN := Lib.hid hst
        clear hst
        go_upto_region 6 with (fail)
        obtain ⟨X, hX⟩ : ∃ X, X = wr.alloc (.cells #[.int .i64 zp, .int .i64 zw, .int .i64 zt] 131) := ⟨_, rfl⟩
        have hq0 : X.cell? ⟨wr.heap.size, 0, none⟩ = some (.int .i64 zp) := by rw [hX]; exact HQ.out.c 0 _ rfl
        have hq1 : X.cell? ⟨wr.heap.size, 1, none⟩ = some (.int .i64 zw) := by rw [hX]; exact HQ.out.c 1 _ rfl
        have hq2 : X.cell? ⟨wr.heap.size, 2, none⟩ = some (.int .i64 zt) := by rw [hX]; exact HQ.out.c 2 _ rfl
        rw [← hX] at HBX HO ⊢
        clear hX HQ q0 q1 q2
        generalize wr.heap.size = D at *
        have hxs := HBX.out.size
        go_wp2_with (at_builtin; refine wpList_append_lies _ rfl _ _ 27 rfl w.heap.size 131 i1 _ 3 24 Try.underlying27 hj0 hj1 hj2 hj3 rfl (by decide) _ R.length (cellsN R) rfl (HO.out.alloc _) ⟨X.heap.size, 0, none⟩ 1 1 [.int .i64 zp, .int .i64 zw, .int .i64 zt] rfl rfl (World.news_of_block (cs := #[.int .i64 zp, .int .i64 zw, .int .i64 zt]) (t := 131) (fr := (0, 0)) (heap_alloc_last X _)) (by simp [Value.oneCell']) (by decide) (by unfold maxLen; omega) (by omega) (by rw [World.size_alloc]; omega) (X.heap.size + 1) (by simp) ?_)
        intro g cp w4 hown hgr _ hglt
        have hb4 := Lib.hid ((HBX.out.alloc hxs (.cells #[.int .i64 zp, .int .i64 zw, .int .i64 zt] 131)).grown hgr (by rw [World.size_alloc]; omega) (fun q hq => (HO.out.lt q hq).1))
        have HO' := Lib.hid (show w4.ownsRow w.heap.size 131 3 (.slice (some ⟨g, 0, none⟩) (R.length + 1) cp) (R ++ [((zp, zw), zt)]).length (cellsN (R ++ [((zp, zw), zt)])) from by rw [cellsN_snoc, List.length_append]; exact hown)
        clear hown hgr
        go_wp2
        go_roundw
        case rel => exact ⟨k + 1, R ++ [((zp, zw), zt)], by omega, by go_num, hb4.out, HO'.out, HN⟩
        case measure => simp [intOf]; omega
    · obtain rfl : k = L.length := by omega
      have HRR : Hid (butD L d = R) := Lib.hid (by rw [← HR.out, HA.out])
      have HO := Lib.hid ho
      clear ho
      go_wp2
      go_ret
      rw [HRR.out]
      exact ⟨A4, c4, rfl, HO.out, hbel⟩
end Go.Proofs.Ytdgmcaehadigaaa
