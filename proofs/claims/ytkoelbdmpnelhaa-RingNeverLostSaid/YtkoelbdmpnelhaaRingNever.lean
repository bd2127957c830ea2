/- A right ring is never lost, whatever of its operations is done (RingNeverLost), walked. -/
import Derived.Test.YtkoelbdmpnelhaaRingLives
namespace Go.Proofs.Ytkoelbdmpnelhaa
open Go.RowKit

theorem take_filter_snoc {L : List Int} {s x : Int} {k : Nat} (h : L[k]? = some x) : (L.take (k + 1)).filter (fun y => y != s) = (L.take k).filter (fun y => y != s) ++ if x = s then [] else [x] := by
  obtain ⟨hk, rfl⟩ := List.getElem?_eq_some_iff.1 h
  rw [List.take_succ_eq_append_getElem hk, List.filter_append]
  by_cases e : L[k] = s
  · rw [if_pos e]; simp [e]
  · rw [if_neg e]; simp [e]
theorem take_mem_snoc {L : List Int} {s x : Int} {k : Nat} (h : L[k]? = some x) : decide (s ∈ L.take (k + 1)) = (decide (s ∈ L.take k) || decide (x = s)) := by
  obtain ⟨hk, rfl⟩ := List.getElem?_eq_some_iff.1 h
  have : s ∈ L.take (k + 1) ↔ (s ∈ L.take k ∨ L[k] = s) := by
    rw [List.take_succ_eq_append_getElem hk, List.mem_append, List.mem_singleton]
    exact ⟨fun h => h.imp id Eq.symm, fun h => h.imp id Eq.symm⟩
  rw [decide_eq_decide.2 this, Bool.decide_or]
theorem ops_len (ws : List Int) (s : Int) : (opsW ws s).length ≤ 3 := by
  unfold opsW cutsW joinsW
  split <;> split <;> (try split) <;> simp
theorem lstF_len (N : Int → Int) : ∀ (n : Nat) (met : List Int) (a : Int), (lstF N n met a).length ≤ met.length + n
  | 0, _, _ => by simp [lstF]
  | n + 1, met, a => by
    rw [lstF]
    split
    · have := lstF_len N n (met ++ [a]) (N a)
      simp at this
      omega
    · omega
theorem lstW_len (ws : List Int) : (lstW ws).length ≤ 4097 := by
  have := lstF_len (NW ws) 4097 [] (NW ws 0)
  simpa [lstW, lst] using this
theorem lListN {W : World} {ws : List Int} {n m c : Nat} {A : Option Addr} {L : List Int} (h : WdL W ws n A) (hL : lstW ws = L) (hm : L.length = m) : Calls Try.prog 61 #[.slice A n c] W fun e w' => ∃ A c, e = .returned (.slice A m c) ∧ m ≤ c ∧ Rd (Value.int .i64) w' w'.heap.size A L ∧ Below W.heap.size W w' := by
  subst hL hm
  obtain ⟨_, _, rfl⟩ := id h
  refine (rList_n h.atc).mono ?_
  rintro e w' ⟨A', c', rfl, h1, _, A2, c2, he, hr, hb⟩
  injection he with he
  injection he with e1 e2 e3
  subst e1
  exact ⟨A', c', rfl, h1, fun k z hz => let ⟨b, off, e1, _, e2, e3⟩ := hr k z hz; ⟨b, off, e1, e2, e3⟩, hb⟩
def flt (s : Int) (L : List Int) : List Int := L.filter (fun y => y != s)
theorem flt_len (s : Int) (L : List Int) : (flt s L).length ≤ L.length := List.length_filter_le _ _

set_option maxRecDepth 100000 in
set_option maxHeartbeats 8000000 in
theorem RingNeverLost_walk (A : Option Addr) (ws : List Int) (c : Nat) (s : Int) (w : World) (hR : Rd (Value.int .u64) w w.heap.size A ws) (hl : ws.length ≤ 9223372036854775807) (hU : Hid (U64L ws)) :
    Calls Try.prog 7 #[.slice A ws.length c, .int .i64 s] w fun e w' => e = .returned (.bool true) ∧ Below w.heap.size w w' := by
  obtain ⟨i0, hi0, hz0, hz1, hz2⟩ := info_parts info_int
  by_cases hlen : ws.length ≤ 100
  case neg =>
    have hli : ¬ (ws.length : Int) ≤ 100 := by omega
    clear hR hU
    go_enter Try.func7, Try.ntmps7
    go_wp2_with fail
    refine (ring_lives_any _).mono ?_
    rintro e w1 ⟨rfl, hb1⟩
    go_wp2
    go_ret
    exact ⟨rfl, hb1⟩
  case pos =>
    have hli : (ws.length : Int) ≤ 100 := by omega
    have HW : Hid (∀ W, Below w.heap.size w W → WdL W ws ws.length A) := Lib.hid fun W hb => (WdL.later ⟨hR, hU.out, rfl⟩ hb)
    by_cases hch : chkW ws = true
    case neg =>
      have HC : Hid (errOf (chkW ws) = 7) := Lib.hid (by unfold errOf; rw [if_neg hch])
      clear hR hU hch
      go_enter Try.func7, Try.ntmps7
      go_wp2_with fail
      refine (ring_lives_any _).mono ?_
      rintro e w1 ⟨rfl, hb1⟩
      go_wp2_with fail
      refine (lCheck (HW.out _ hb1) HC.out).mono ?_
      rintro e w2 ⟨rfl, hb2⟩
      have hB2 := Below.next hb1 hb2
      clear hb1 hb2
      go_wp2
      go_ret
      exact ⟨rfl, hB2⟩
    case pos =>
      have HC : Hid (errOf (chkW ws) = 0) := Lib.hid (by unfold errOf; rw [if_pos hch])
      have HRt := Lib.hid (Right.of hU.out hch)
      have HF : Hid (0 < s → s < ws.length → Fine ws s (opsW ws s) (flt s (lstW ws)) (finW ws s)) := Lib.hid fun h1 h2 => fine_any hU.out hch h1 h2
      have HNO : Hid (¬ (0 < s ∧ s < ws.length) → opsW ws s = [] ∧ locksW ws s = []) := Lib.hid fun h => ops_none hU.out hch h
      have HLL : Hid (MetR (lstW ws)) := Lib.hid (by
        have hr := HRt.out.ring
        exact ⟨hr.nd, fun x hx => by have := hr.lt x hx; omega⟩)
      have HKL : Hid ((locksW ws s).length ≤ 5000) := Lib.hid (by
        unfold locksW locksL
        split
        · simp
        · refine Nat.le_trans (List.length_filter_le _ _) ?_
          rw [List.length_map, List.length_range]
          have := bndW hU.out
          have h1 := this.n0 0
          have h2 := this.n0 s
          have h3 := this.p0 s
          unfold lockNP
          split <;> simp only <;> omega)
      clear hR hU hch
      go_enter Try.func7, Try.ntmps7
      go_wp2_with fail
      refine (ring_lives_any _).mono ?_
      rintro e w1 ⟨rfl, hb1⟩
      go_wp2_with fail
      refine (lCheck (HW.out _ hb1) HC.out).mono ?_
      rintro e w2 ⟨rfl, hb2⟩
      have hB2 := Below.next hb1 hb2
      clear hb1 hb2
      go_wp2_with fail
      refine (rList_n ((HW.out _ hB2).atc)).mono ?_
      rintro e w3 ⟨LA, lc, rfl, hLc, hLm, hL3⟩
      obtain ⟨LA', lc', he3, hr3, hb3⟩ := hL3
      injection he3 with he3
      injection he3 with e1 e2 e3
      subst e1 e3
      clear e2
      have hB3 := Below.next hB2 hb3
      have HRL := Lib.hid (show Rd (Value.int .i64) w3 w3.heap.size LA (lstW ws) from fun k z hz => let ⟨b, off, e1, _, e2, e3⟩ := hr3 k z hz; ⟨b, off, e1, e2, e3⟩)
      clear hb3 hr3 hB2
      go_wp2_with fail
      refine (lLocks (HW.out _ hB3) rfl rfl).mono ?_
      rintro e w4 ⟨KA, kc, rfl, hrK, hb4⟩
      have hB4 := Below.next hB3 hb4
      have HRL4 := Lib.hid (rd_later HRL.out hb4)
      have HRK4 := Lib.hid hrK
      clear hrK hb4 hB3 HRL
      have HOPS : Hid (opsW ws s = if s ∈ lstW ws then cutsW ws s else joinsW ws s) := rfl
      have HFIN : Hid (finW ws s = if s ∈ lstW ws then flt s (lstW ws) else s :: lstW ws) := rfl
      have hll := HLL.out.len
      have hkl := HKL.out
      obtain ⟨L, hLe⟩ : ∃ L, L = lstW ws := ⟨_, rfl⟩
      obtain ⟨K, hKe⟩ : ∃ K, K = locksW ws s := ⟨_, rfl⟩
      have HLe := Lib.hid hLe
      have HKe := Lib.hid hKe
      rw [← hLe] at hll hLc HRL4 HF HOPS HFIN ⊢
      rw [← hKe] at hkl HRK4 ⊢
      clear hLe hKe
      go_wp2
      go_loop [7, 41] (fun b i => ∃ (k : Nat) (q : Bool), k ≤ L.length ∧ i = .int .i64 (k : Int) ∧ b = .bool q ∧ Hid (q = decide (s ∈ L.take k))) (fun _ i => L.length - (intOf i).toNat)
      case atStart => exact ⟨0, false, Nat.zero_le _, rfl, rfl, by simp [Hid]⟩
      case round =>
        obtain ⟨k, q, hk, rfl, rfl, HQ⟩ := hrel
        by_cases hlt : k < L.length
        · obtain ⟨b, off, rfl, hb, hc⟩ := HRL4.out k _ (List.getElem?_eq_getElem hlt)
          have HT := Lib.hid (take_mem_snoc (s := s) (List.getElem?_eq_getElem hlt))
          generalize L[k] = x at *
          have hkl : (k : Int) < (L.length : Int) := by omega
          have hk0 : (0 : Int) ≤ (k : Int) := by omega
          cases q with
          | true =>
            have HQ2 : Hid (true = decide (s ∈ L.take (k + 1))) := Lib.hid (by rw [HT.out, ← HQ.out]; rfl)
            clear HT HQ
            go_wp2
            go_round
            case rel => exact ⟨k + 1, true, by omega, by go_num, rfl, HQ2.out⟩
            case measure => simp [intOf]; omega
          | false =>
            by_cases hx : x = s
            · have HQ2 : Hid (true = decide (s ∈ L.take (k + 1))) := Lib.hid (by rw [HT.out, ← HQ.out, decide_eq_true hx]; rfl)
              have hxb : (x == s) = true := by rw [beq_iff_eq]; exact hx
              clear HT HQ hx
              go_wp2
              go_round
              case rel => exact ⟨k + 1, true, by omega, by go_num, rfl, HQ2.out⟩
              case measure => simp [intOf]; omega
            · have HQ2 : Hid (false = decide (s ∈ L.take (k + 1))) := Lib.hid (by rw [HT.out, ← HQ.out, decide_eq_false hx]; rfl)
              have hxb : (x == s) = false := by rw [beq_eq_false_iff_ne]; exact hx
              clear HT HQ hx
              go_wp2
              go_round
              case rel => exact ⟨k + 1, false, by omega, by go_num, rfl, HQ2.out⟩
              case measure => simp [intOf]; omega
        · obtain rfl : k = L.length := by omega
          rw [List.take_length] at HQ
          by_cases hin : s ∈ L
          case pos =>
            have HOE : Hid (cutsW ws s = opsW ws s) := Lib.hid (by rw [HOPS.out, if_pos hin])
            have HFE : Hid (finW ws s = flt s L) := Lib.hid (by rw [HFIN.out, if_pos hin])
            obtain rfl : q = true := HQ.out.trans (decide_eq_true hin)
            clear HQ HOPS HFIN hin
            go_wp2_with fail
            refine (rJoins_c (HW.out _ hB4).atc s).mono ?_
            rintro e w5 ⟨A5, c5, rfl, _, _, hb5⟩
            have hB5 := Below.next hB4 hb5
            have HRL5 := Lib.hid (rd_later HRL4.out hb5)
            have HRK5 := Lib.hid (rd_later HRK4.out hb5)
            clear hb5 hB4 HRL4 HRK4
            go_wp2_with fail
            refine (rCuts_c (HW.out _ hB5).atc s).mono ?_
            rintro e w6 ⟨OA, oc, rfl, hOc, hrO, hb6⟩
            have hBO := Below.next hB5 hb6
            have HRL6 := Lib.hid (rd_later HRL5.out hb6)
            have HRK6 := Lib.hid (rd_later HRK5.out hb6)
            have HRO := Lib.hid (hrO.more (n' := 0) (Nat.zero_le _) (Nat.le_refl _))
            clear hb6 hB5 HRL5 HRK5 hrO
            generalize cutsW ws s = O at *

            by_cases hss : 0 < s ∧ s < (ws.length : Int)
            case neg =>
              obtain ⟨n1, n2⟩ := HNO.out hss
              have hO0 : O.length = 0 := by rw [HOE.out, n1]; rfl
              have hK0 : K.length = 0 := by rw [HKe.out, n2]; rfl
              have hw : s < 1 ∨ (1 ≤ s ∧ (ws.length : Int) ≤ s) := by omega
              have HB := Lib.hid hBO
              clear hBO n1 n2 hss
              generalize O.length = ol at *
              generalize K.length = kl at *
              subst hO0 hK0
              rcases hw with h1 | ⟨h1, h2⟩
              all_goals
                go_wp2
                go_ret
                exact ⟨rfl, HB.out⟩
            case pos =>
              have HFN := Lib.hid (HF.out hss.1 hss.2)
              obtain ⟨hs1, hs2⟩ := hss
              have hs1' : 1 ≤ s := hs1
              have HBO := Lib.hid hBO
              clear hBO HF HNO
              go_wp2
              go_loopw [11, 77] (fun v i wr => ∃ k : Nat, k ≤ L.length ∧ i = .int .i64 (k : Int) ∧ wr.ownsRow w6.heap.size 3 1 v (flt s (L.take k)).length ((flt s (L.take k)).map (Value.int .i64)) ∧ Below w6.heap.size w6 wr) (fun _ i _ => L.length - (intOf i).toNat)
              case atStart => exact ⟨0, Nat.zero_le _, rfl, World.ownsRow_nil _ _ _ _, Below.refl _ _⟩
              case round =>
                obtain ⟨k, hk, rfl, hown, hbel⟩ := hrel
                by_cases hlt : k < L.length
                · obtain ⟨b, off, rfl, hb, hc0⟩ := HRL6.out k _ (List.getElem?_eq_getElem (by omega))
                  have hc := (hbel.cell (p := ⟨b, off + k, none⟩) hb).trans hc0
                  have HT := Lib.hid (take_filter_snoc (s := s) (List.getElem?_eq_getElem (l := L) (i := k) (by omega)))
                  have hfl := flt_len s (L.take k)
                  rw [List.length_take] at hfl
                  clear hc0
                  generalize L[k] = x at *
                  have hkl : (k : Int) < (L.length : Int) := by omega
                  have hk0 : (0 : Int) ≤ (k : Int) := by omega
                  by_cases hx : x = s
                  · have HE : Hid (flt s (L.take (k + 1)) = flt s (L.take k)) := Lib.hid (by have := HT.out; rw [if_pos hx, List.append_nil] at this; exact this)
                    have hxb : (x != s) = false := by rw [bne_eq_false_iff_eq]; exact hx
                    have HO := Lib.hid hown
                    have HB := Lib.hid hbel
                    clear hown hbel HT hx hfl
                    go_wp2
                    go_roundw
                    case rel => exact ⟨k + 1, by omega, by go_num, by rw [HE.out]; exact HO.out, HB.out⟩
                    case measure => simp [intOf]; omega
                  · have HE : Hid (flt s (L.take (k + 1)) = flt s (L.take k) ++ [x]) := Lib.hid (by have := HT.out; rw [if_neg hx] at this; exact this)
                    have hxb : (x != s) = true := by rw [bne_iff_ne]; exact hx
                    have hsz := hbel.size
                    have HO := Lib.hid hown
                    have HB := Lib.hid hbel
                    clear HT hx hown hbel
                    go_wp2_with (at_builtin; refine wpList_append_own _ rfl _ _ 38 rfl w6.heap.size 3 i0 (.int .i64 0) 1 8 Try.underlying38 hi0 hz0 hz1 hz2 rfl (by decide) _ _ _ rfl (HO.out.alloc _) ⟨wr.heap.size, 0, none⟩ 1 1 [.int .i64 x] rfl rfl ?c1 ?c2 ?c3 ?c4 ?c5 ?_)
                    case c2 => intro u hu; simp at hu; subst hu; rfl
                    case c3 => unfold maxLen; omega
                    case c4 => omega
                    case c5 => simp; omega
                    · intro j u hj
                      match j, hj with
                      | 0, hj => simp at hj; subst hj; simp [Addr.add]
                    intro v' wn9 hown9 hgrow _
                    have hB9 := ownBase (HO.out.alloc (.cells #[.int .i64 x] 3)) (HB.out.alloc hsz _) (Nat.le_refl _) (by simp; omega) hgrow
                    have HO9 : Hid (wn9.ownsRow w6.heap.size 3 1 v' (flt s (L.take (k + 1))).length ((flt s (L.take (k + 1))).map (Value.int .i64))) := Lib.hid (by rw [HE.out]; simpa using hown9)
                    clear hown9 hgrow HO HE hfl HB
                    go_wp2
                    go_roundw
                    case rel => exact ⟨k + 1, by omega, by go_num, HO9.out, hB9⟩
                    case measure => simp [intOf]; omega
                · obtain rfl : k = L.length := by omega
                  rw [List.take_of_length_le (by omega)] at hown
                  obtain ⟨RA, rc, rfl, _, _⟩ := ownSlice hown
                  have HBO7 := Lib.hid (Below.next HBO.out hbel)
                  have HRR := Lib.hid (Rd.of_own (f := Value.int .i64) hown)
                  have HRL7 := Lib.hid (rd_later HRL6.out hbel)
                  have HRK7 := Lib.hid (rd_later HRK6.out hbel)
                  have HRO7 := Lib.hid ((HRO.out.below hbel).more (Nat.le_refl _) hbel.size)
                  clear hown hbel HRL6 HRK6 HRO HBO
                  obtain ⟨w7, rfl⟩ : ∃ x, x = wr := ⟨_, rfl⟩
                  have HOL : Hid (O.length ≤ 3) := Lib.hid (by rw [HOE.out]; exact ops_len ws s)
                  have hol := HOL.out
                  go_wp2
                  go_loopw [91] (fun i wr => ∃ KK : Nat, KK ≤ O.length ∧ i = .int .i64 (KK : Int) ∧ Below w7.heap.size w7 wr) (fun i _ => O.length - (intOf i).toNat)
                  case atStart => exact ⟨0, Nat.zero_le _, rfl, Below.refl _ _⟩
                  case round =>
                    obtain ⟨KK, hkk, rfl, hbel⟩ := hrel
                    by_cases hltk : KK < O.length
                    · obtain ⟨ob, ooff, rfl, _, hob, hoc⟩ := (HRO7.out.below hbel) KK _ (List.getElem?_eq_getElem hltk)
                      have HHELD := Lib.hid (HFN.out.held (O[KK]) (by rw [← HOE.out]; exact List.getElem_mem hltk))
                      rw [← HKe.out] at HHELD
                      have HOC := Lib.hid hoc
                      clear hoc
                      generalize O[KK] = o at *
                      obtain ⟨oa, on, om⟩ := o
                      have q0 : wr.cell? ⟨ob, ooff + KK * 10, none⟩ = some (.int .i64 12) := HOC.out 0 _ rfl
                      have q1 : wr.cell? ⟨ob, ooff + KK * 10 + 1, none⟩ = some (.int .i64 oa) := HOC.out 1 _ rfl
                      have q2 : wr.cell? ⟨ob, ooff + KK * 10 + 2, none⟩ = some (.int .i64 0) := HOC.out 2 _ rfl
                      have q3 : wr.cell? ⟨ob, ooff + KK * 10 + 3, none⟩ = some (.int .i64 on) := HOC.out 3 _ rfl
                      have q4 : wr.cell? ⟨ob, ooff + KK * 10 + 4, none⟩ = some (.int .i64 om) := HOC.out 4 _ rfl
                      have q5 : wr.cell? ⟨ob, ooff + KK * 10 + 5, none⟩ = some (.int .u64 0) := HOC.out 5 _ rfl
                      have q6 : wr.cell? ⟨ob, ooff + KK * 10 + 6, none⟩ = some (.slice none 0 0) := HOC.out 6 _ rfl
                      have q7 : wr.cell? ⟨ob, ooff + KK * 10 + 7, none⟩ = some (.int .u64 0) := HOC.out 7 _ rfl
                      have q8 : wr.cell? ⟨ob, ooff + KK * 10 + 8, none⟩ = some (.slice none 0 0) := HOC.out 8 _ rfl
                      have q9 : wr.cell? ⟨ob, ooff + KK * 10 + 9, none⟩ = some (.int .u64 0) := HOC.out 9 _ rfl
                      have hkkl : (KK : Int) < (O.length : Int) := by omega
                      have hkk0 : (0 : Int) ≤ (KK : Int) := by omega
                      have HBX := Lib.hid (hbel.alloc hbel.size (.cells #[.int .i64 12, .int .i64 oa, .int .i64 0, .int .i64 on, .int .i64 om, .int .u64 0, .slice none 0 0, .int .u64 0, .slice none 0 0, .int .u64 0] 106))
                      have HQB := Lib.hid ((Bx.new wr (cellO (oa, on, om)) 106).c 1 _ rfl)
                      clear hbel HOC
                      go_upto_region 28 with (fail)
                      obtain ⟨X, hX⟩ : ∃ X, X = wr.alloc (.cells #[.int .i64 12, .int .i64 oa, .int .i64 0, .int .i64 on, .int .i64 om, .int .u64 0, .slice none 0 0, .int .u64 0, .slice none 0 0, .int .u64 0] 106) := ⟨_, rfl⟩
                      have HQB2 : Hid (X.cell? ⟨wr.heap.size, 1, none⟩ = some (.int .i64 oa)) := Lib.hid (by rw [hX]; exact HQB.out)
                      rw [← hX] at HBX ⊢
                      clear hX HQB q0 q1 q2 q3 q4 q5 q6 q7 q8 q9
                      generalize wr.heap.size = D at *
                      have hqb := HQB2.out
                      have HRKX := Lib.hid (rd_later HRK7.out HBX.out)
                      go_wp2
                      go_loop [16, 98] (fun b i => ∃ (k : Nat) (q : Bool), k ≤ K.length ∧ i = .int .i64 (k : Int) ∧ b = .bool q ∧ Hid (q = decide (oa ∈ K.take k))) (fun _ i => K.length - (intOf i).toNat)
                      case atStart => exact ⟨0, false, Nat.zero_le _, rfl, rfl, by simp [Hid]⟩
                      case round =>
                        obtain ⟨k, q, hk, rfl, rfl, HQ⟩ := hrel
                        by_cases hlt : k < K.length
                        · obtain ⟨b, off, rfl, hb, hc⟩ := HRKX.out k _ (List.getElem?_eq_getElem hlt)
                          have HT := Lib.hid (take_mem_snoc (s := oa) (List.getElem?_eq_getElem hlt))
                          generalize K[k] = x at *
                          have hkl : (k : Int) < (K.length : Int) := by omega
                          have hk0 : (0 : Int) ≤ (k : Int) := by omega
                          cases q with
                          | true =>
                            have HQ2 : Hid (true = decide (oa ∈ K.take (k + 1))) := Lib.hid (by rw [HT.out, ← HQ.out]; rfl)
                            clear HT HQ
                            go_wp2
                            go_round
                            case rel => exact ⟨k + 1, true, by omega, by go_num, rfl, HQ2.out⟩
                            case measure => simp [intOf]; omega
                          | false =>
                            by_cases hx : x = oa
                            · have HQ2 : Hid (true = decide (oa ∈ K.take (k + 1))) := Lib.hid (by rw [HT.out, ← HQ.out, decide_eq_true hx]; rfl)
                              have hxb : (x == oa) = true := by rw [beq_iff_eq]; exact hx
                              clear HT HQ hx
                              go_wp2
                              go_round
                              case rel => exact ⟨k + 1, true, by omega, by go_num, rfl, HQ2.out⟩
                              case measure => simp [intOf]; omega
                            · have HQ2 : Hid (false = decide (oa ∈ K.take (k + 1))) := Lib.hid (by rw [HT.out, ← HQ.out, decide_eq_false hx]; rfl)
                              have hxb : (x == oa) = false := by rw [beq_eq_false_iff_ne]; exact hx
                              clear HT HQ hx
                              go_wp2
                              go_round
                              case rel => exact ⟨k + 1, false, by omega, by go_num, rfl, HQ2.out⟩
                              case measure => simp [intOf]; omega
                        · obtain rfl : k = K.length := by omega
                          rw [List.take_length] at HQ
                          obtain rfl : q = true := HQ.out.trans (decide_eq_true HHELD.out)
                          clear HQ hqb HRKX
                          have hcap : (KK : Int) + 1 ≤ (oc : Int) := by omega
                          have hk3 : (KK : Int) ≤ 3 := by omega
                          have HWX := Lib.hid (HW.out _ (Below.next HBO7.out HBX.out))
                          have HOX : Hid (RdO X 0 X.heap.size (some ⟨ob, ooff, none⟩) (O.take (KK + 1))) := Lib.hid fun k o ho => by
                            have hk2 : k < KK + 1 := by have := (List.getElem?_eq_some_iff.1 ho).1; rw [List.length_take] at this; omega
                            rw [List.getElem?_take, if_pos hk2] at ho
                            exact ((HRO7.out.below HBX.out).more (Nat.le_refl _) HBX.out.size) k o ho
                          go_wp2_with fail
                          refine (lDo HWX.out (by omega) HOX.out (m := KK + 1) (by rw [List.length_take]; omega) (by omega) rfl).mono ?_
                          rintro e w8 ⟨EA, ec, rfl, hw8, hb8⟩
                          have HBX8 := Lib.hid (Below.next HBX.out hb8)
                          have HW8 := Lib.hid hw8
                          have HRR8 := Lib.hid (rd_later HRR.out HBX8.out)
                          clear hb8 hw8 HBX HWX HOX
                          obtain ⟨M, hMe⟩ : ∃ M, M = lstW (doW ws (O.take (KK + 1))) := ⟨_, rfl⟩
                          have hml : M.length ≤ 4097 := by rw [hMe]; exact lstW_len _
                          have HMe := Lib.hid hMe
                          clear hMe
                          go_wp2_with fail
                          refine (lList (m := M.length) HW8.out HMe.out.symm rfl).mono ?_
                          rintro e w9 ⟨MA, mc, rfl, hrm, hb9⟩
                          have HRM := Lib.hid hrm
                          have HBX9 := Lib.hid (Below.next HBX8.out hb9)
                          have HRR9 := Lib.hid (rd_later HRR8.out hb9)
                          clear hrm hb9 HBX8 HRR8 HW8
                          go_wp2
                          go_loopw [19, 118] (fun v i wr => ∃ k : Nat, k ≤ M.length ∧ i = .int .i64 (k : Int) ∧ wr.ownsRow w9.heap.size 3 1 v (flt s (M.take k)).length ((flt s (M.take k)).map (Value.int .i64)) ∧ Below w9.heap.size w9 wr) (fun _ i _ => M.length - (intOf i).toNat)
                          case atStart => exact ⟨0, Nat.zero_le _, rfl, World.ownsRow_nil _ _ _ _, Below.refl _ _⟩
                          case round =>
                            obtain ⟨k, hk, rfl, hown, hbel⟩ := hrel
                            by_cases hlt : k < M.length
                            · obtain ⟨b, off, rfl, hb, hc0⟩ := HRM.out k _ (List.getElem?_eq_getElem (by omega))
                              have hc := (hbel.cell (p := ⟨b, off + k, none⟩) hb).trans hc0
                              have HT := Lib.hid (take_filter_snoc (s := s) (List.getElem?_eq_getElem (l := M) (i := k) (by omega)))
                              have hfl := flt_len s (M.take k)
                              rw [List.length_take] at hfl
                              clear hc0
                              generalize M[k] = x at *
                              have hkl : (k : Int) < (M.length : Int) := by omega
                              have hk0 : (0 : Int) ≤ (k : Int) := by omega
                              by_cases hx : x = s
                              · have HE : Hid (flt s (M.take (k + 1)) = flt s (M.take k)) := Lib.hid (by have := HT.out; rw [if_pos hx, List.append_nil] at this; exact this)
                                have hxb : (x != s) = false := by rw [bne_eq_false_iff_eq]; exact hx
                                have HO := Lib.hid hown
                                have HB := Lib.hid hbel
                                clear hown hbel HT hx hfl
                                go_wp2
                                go_roundw
                                case rel => exact ⟨k + 1, by omega, by go_num, by rw [HE.out]; exact HO.out, HB.out⟩
                                case measure => simp [intOf]; omega
                              · have HE : Hid (flt s (M.take (k + 1)) = flt s (M.take k) ++ [x]) := Lib.hid (by have := HT.out; rw [if_neg hx] at this; exact this)
                                have hxb : (x != s) = true := by rw [bne_iff_ne]; exact hx
                                have hsz := hbel.size
                                have HO := Lib.hid hown
                                have HB := Lib.hid hbel
                                clear HT hx hown hbel
                                go_wp2_with (at_builtin; refine wpList_append_own _ rfl _ _ 38 rfl w9.heap.size 3 i0 (.int .i64 0) 1 8 Try.underlying38 hi0 hz0 hz1 hz2 rfl (by decide) _ _ _ rfl (HO.out.alloc _) ⟨wr.heap.size, 0, none⟩ 1 1 [.int .i64 x] rfl rfl ?d1 ?d2 ?d3 ?d4 ?d5 ?_)
                                case d2 => intro u hu; simp at hu; subst hu; rfl
                                case d3 => unfold maxLen; omega
                                case d4 => omega
                                case d5 => simp; omega
                                · intro j u hj
                                  match j, hj with
                                  | 0, hj => simp at hj; subst hj; simp [Addr.add]
                                intro v' wn9 hown9 hgrow _
                                have hB9 := ownBase (HO.out.alloc (.cells #[.int .i64 x] 3)) (HB.out.alloc hsz _) (Nat.le_refl _) (by simp; omega) hgrow
                                have HO9 : Hid (wn9.ownsRow w9.heap.size 3 1 v' (flt s (M.take (k + 1))).length ((flt s (M.take (k + 1))).map (Value.int .i64))) := Lib.hid (by rw [HE.out]; simpa using hown9)
                                clear hown9 hgrow HO HE hfl HB
                                go_wp2
                                go_roundw
                                case rel => exact ⟨k + 1, by omega, by go_num, HO9.out, hB9⟩
                                case measure => simp [intOf]; omega
                            · obtain rfl : k = M.length := by omega
                              rw [List.take_of_length_le (by omega)] at hown
                              have HNOW : Hid (flt s M = flt s L) := Lib.hid ((by have := HFN.out.mid KK (by rw [← HOE.out]; omega); rw [← HOE.out, ← HMe.out] at this; exact this))
                              rw [HNOW.out] at hown
                              obtain ⟨NA, nc, rfl, _, _⟩ := ownSlice hown
                              have HB10 := Lib.hid hbel
                              have HRN := Lib.hid (Rd.of_own (f := Value.int .i64) hown)
                              clear hown hbel
                              go_wp2_with fail
                              refine (SameI_is rfl HRN.out (rd_later HRR9.out HB10.out) (by have := flt_len s L; omega)).mono ?_
                              rintro e w11 ⟨rfl, hb11⟩
                              have HZ := Lib.hid (Below.next HBX9.out (Below.next HB10.out hb11))
                              clear hb11
                              go_wp2
                              go_roundw
                              case rel => exact ⟨KK + 1, by omega, by go_num, HZ.out⟩
                              case measure => simp [intOf]; omega
                    · have hkx : KK = O.length := by omega
                      have hbe := Below.next HBO7.out hbel
                      have HWE := Lib.hid (HW.out _ hbe)
                      have HOE2 : Hid (RdO wr 0 wr.heap.size OA O) := Lib.hid ((HRO7.out.below hbel).more (Nat.le_refl _) hbel.size)
                      have HBE := Lib.hid hbe
                      have HRRe := Lib.hid (rd_later HRR.out hbel)
                      have HRLe := Lib.hid (rd_later HRL7.out hbel)
                      have HEE : Hid (Right (doW ws O) (flt s L)) := Lib.hid (by have := HFN.out.fin; rw [← HOE.out, HFE.out] at this; exact this)
                      have HCE : Hid (errOf (chkW (doW ws O)) = 0) := Lib.hid (by unfold errOf; rw [if_pos HEE.out.chk])
                      subst hkx
                      clear hbe hbel HRR HRO7 HRL7 HRK7 HBO7
                      go_wp2_with fail
                      refine (lDo HWE.out (by omega) HOE2.out rfl (by omega) rfl).mono ?_
                      rintro e w8 ⟨EA, ec, rfl, hw8, hb8⟩
                      have HBE8 := Lib.hid (Below.next HBE.out hb8)
                      have HW8 := Lib.hid hw8
                      have HRR8 := Lib.hid (rd_later HRRe.out hb8)
                      have HRL8 := Lib.hid (rd_later HRLe.out hb8)
                      clear hb8 hw8 HBE HWE HOE2 HRRe HRLe
                      go_wp2_with fail
                      refine (lListN (m := (flt s L).length) HW8.out HEE.out.lst rfl).mono ?_
                      rintro e w9 ⟨QA, qc, rfl, hqc, hqr, hb9⟩
                      have HBE9 := Lib.hid (Below.next HBE8.out hb9)
                      have HW9 := Lib.hid (HW8.out.later hb9)
                      have HRR9 := Lib.hid (rd_later HRR8.out hb9)
                      have HRL9 := Lib.hid (rd_later HRL8.out hb9)
                      have HRQ9 := Lib.hid hqr
                      clear hb9 hqr HBE8 HW8 HRR8 HRL8
                      go_wp2_with fail
                      refine (lCheck HW9.out HCE.out).mono ?_
                      rintro e wC ⟨rfl, hbC⟩
                      have HBE10 := Lib.hid (Below.next HBE9.out hbC)
                      have HRR10 := Lib.hid (rd_later HRR9.out hbC)
                      have HRQ10 := Lib.hid (rd_later HRQ9.out hbC)
                      clear hbC HBE9 HRR9 HRQ9 HW9
                      go_wp2_with fail
                      refine (SameI_is rfl HRQ10.out HRR10.out (by have := flt_len s L; omega)).mono ?_
                      rintro e wD ⟨rfl, hbD⟩
                      have HZ := Lib.hid (Below.next HBE10.out hbD)
                      clear hbD
                      go_wp2
                      go_ret
                      exact ⟨rfl, HZ.out⟩
          case neg =>
            have HOE : Hid (joinsW ws s = opsW ws s) := Lib.hid (by rw [HOPS.out, if_neg hin])
            have HFE : Hid (finW ws s = s :: L) := Lib.hid (by rw [HFIN.out, if_neg hin])
            obtain rfl : q = false := HQ.out.trans (decide_eq_false hin)
            clear HQ HOPS HFIN hin
            go_wp2_with fail
            refine (rJoins_c (HW.out _ hB4).atc s).mono ?_
            rintro e w6 ⟨OA, oc, rfl, hOc, hrO, hb6⟩
            have hBO := Below.next hB4 hb6
            have HRL6 := Lib.hid (rd_later HRL4.out hb6)
            have HRK6 := Lib.hid (rd_later HRK4.out hb6)
            have HRO := Lib.hid (hrO.more (n' := 0) (Nat.zero_le _) (Nat.le_refl _))
            clear hb6 hB4 HRL4 HRK4 hrO
            generalize joinsW ws s = O at *

            by_cases hss : 0 < s ∧ s < (ws.length : Int)
            case neg =>
              obtain ⟨n1, n2⟩ := HNO.out hss
              have hO0 : O.length = 0 := by rw [HOE.out, n1]; rfl
              have hK0 : K.length = 0 := by rw [HKe.out, n2]; rfl
              have hw : s < 1 ∨ (1 ≤ s ∧ (ws.length : Int) ≤ s) := by omega
              have HB := Lib.hid hBO
              clear hBO n1 n2 hss
              generalize O.length = ol at *
              generalize K.length = kl at *
              subst hO0 hK0
              rcases hw with h1 | ⟨h1, h2⟩
              all_goals
                go_wp2
                go_ret
                exact ⟨rfl, HB.out⟩
            case pos =>
              have HFN := Lib.hid (HF.out hss.1 hss.2)
              obtain ⟨hs1, hs2⟩ := hss
              have hs1' : 1 ≤ s := hs1
              have HBO := Lib.hid hBO
              clear hBO HF HNO
              go_wp2
              go_loopw [11, 77] (fun v i wr => ∃ k : Nat, k ≤ L.length ∧ i = .int .i64 (k : Int) ∧ wr.ownsRow w6.heap.size 3 1 v (flt s (L.take k)).length ((flt s (L.take k)).map (Value.int .i64)) ∧ Below w6.heap.size w6 wr) (fun _ i _ => L.length - (intOf i).toNat)
              case atStart => exact ⟨0, Nat.zero_le _, rfl, World.ownsRow_nil _ _ _ _, Below.refl _ _⟩
              case round =>
                obtain ⟨k, hk, rfl, hown, hbel⟩ := hrel
                by_cases hlt : k < L.length
                · obtain ⟨b, off, rfl, hb, hc0⟩ := HRL6.out k _ (List.getElem?_eq_getElem (by omega))
                  have hc := (hbel.cell (p := ⟨b, off + k, none⟩) hb).trans hc0
                  have HT := Lib.hid (take_filter_snoc (s := s) (List.getElem?_eq_getElem (l := L) (i := k) (by omega)))
                  have hfl := flt_len s (L.take k)
                  rw [List.length_take] at hfl
                  clear hc0
                  generalize L[k] = x at *
                  have hkl : (k : Int) < (L.length : Int) := by omega
                  have hk0 : (0 : Int) ≤ (k : Int) := by omega
                  by_cases hx : x = s
                  · have HE : Hid (flt s (L.take (k + 1)) = flt s (L.take k)) := Lib.hid (by have := HT.out; rw [if_pos hx, List.append_nil] at this; exact this)
                    have hxb : (x != s) = false := by rw [bne_eq_false_iff_eq]; exact hx
                    have HO := Lib.hid hown
                    have HB := Lib.hid hbel
                    clear hown hbel HT hx hfl
                    go_wp2
                    go_roundw
                    case rel => exact ⟨k + 1, by omega, by go_num, by rw [HE.out]; exact HO.out, HB.out⟩
                    case measure => simp [intOf]; omega
                  · have HE : Hid (flt s (L.take (k + 1)) = flt s (L.take k) ++ [x]) := Lib.hid (by have := HT.out; rw [if_neg hx] at this; exact this)
                    have hxb : (x != s) = true := by rw [bne_iff_ne]; exact hx
                    have hsz := hbel.size
                    have HO := Lib.hid hown
                    have HB := Lib.hid hbel
                    clear HT hx hown hbel
                    go_wp2_with (at_builtin; refine wpList_append_own _ rfl _ _ 38 rfl w6.heap.size 3 i0 (.int .i64 0) 1 8 Try.underlying38 hi0 hz0 hz1 hz2 rfl (by decide) _ _ _ rfl (HO.out.alloc _) ⟨wr.heap.size, 0, none⟩ 1 1 [.int .i64 x] rfl rfl ?e1 ?e2 ?e3 ?e4 ?e5 ?_)
                    case e2 => intro u hu; simp at hu; subst hu; rfl
                    case e3 => unfold maxLen; omega
                    case e4 => omega
                    case e5 => simp; omega
                    · intro j u hj
                      match j, hj with
                      | 0, hj => simp at hj; subst hj; simp [Addr.add]
                    intro v' wn9 hown9 hgrow _
                    have hB9 := ownBase (HO.out.alloc (.cells #[.int .i64 x] 3)) (HB.out.alloc hsz _) (Nat.le_refl _) (by simp; omega) hgrow
                    have HO9 : Hid (wn9.ownsRow w6.heap.size 3 1 v' (flt s (L.take (k + 1))).length ((flt s (L.take (k + 1))).map (Value.int .i64))) := Lib.hid (by rw [HE.out]; simpa using hown9)
                    clear hown9 hgrow HO HE hfl HB
                    go_wp2
                    go_roundw
                    case rel => exact ⟨k + 1, by omega, by go_num, HO9.out, hB9⟩
                    case measure => simp [intOf]; omega
                · obtain rfl : k = L.length := by omega
                  rw [List.take_of_length_le (by omega)] at hown
                  obtain ⟨RA, rc, rfl, _, _⟩ := ownSlice hown
                  have HBO7 := Lib.hid (Below.next HBO.out hbel)
                  have HRR := Lib.hid (Rd.of_own (f := Value.int .i64) hown)
                  have HRL7 := Lib.hid (rd_later HRL6.out hbel)
                  have HRK7 := Lib.hid (rd_later HRK6.out hbel)
                  have HRO7 := Lib.hid ((HRO.out.below hbel).more (Nat.le_refl _) hbel.size)
                  clear hown hbel HRL6 HRK6 HRO HBO
                  obtain ⟨w7, rfl⟩ : ∃ x, x = wr := ⟨_, rfl⟩
                  have HOL : Hid (O.length ≤ 3) := Lib.hid (by rw [HOE.out]; exact ops_len ws s)
                  have hol := HOL.out
                  go_wp2
                  go_loopw [91] (fun i wr => ∃ KK : Nat, KK ≤ O.length ∧ i = .int .i64 (KK : Int) ∧ Below w7.heap.size w7 wr) (fun i _ => O.length - (intOf i).toNat)
                  case atStart => exact ⟨0, Nat.zero_le _, rfl, Below.refl _ _⟩
                  case round =>
                    obtain ⟨KK, hkk, rfl, hbel⟩ := hrel
                    by_cases hltk : KK < O.length
                    · obtain ⟨ob, ooff, rfl, _, hob, hoc⟩ := (HRO7.out.below hbel) KK _ (List.getElem?_eq_getElem hltk)
                      have HHELD := Lib.hid (HFN.out.held (O[KK]) (by rw [← HOE.out]; exact List.getElem_mem hltk))
                      rw [← HKe.out] at HHELD
                      have HOC := Lib.hid hoc
                      clear hoc
                      generalize O[KK] = o at *
                      obtain ⟨oa, on, om⟩ := o
                      have q0 : wr.cell? ⟨ob, ooff + KK * 10, none⟩ = some (.int .i64 12) := HOC.out 0 _ rfl
                      have q1 : wr.cell? ⟨ob, ooff + KK * 10 + 1, none⟩ = some (.int .i64 oa) := HOC.out 1 _ rfl
                      have q2 : wr.cell? ⟨ob, ooff + KK * 10 + 2, none⟩ = some (.int .i64 0) := HOC.out 2 _ rfl
                      have q3 : wr.cell? ⟨ob, ooff + KK * 10 + 3, none⟩ = some (.int .i64 on) := HOC.out 3 _ rfl
                      have q4 : wr.cell? ⟨ob, ooff + KK * 10 + 4, none⟩ = some (.int .i64 om) := HOC.out 4 _ rfl
                      have q5 : wr.cell? ⟨ob, ooff + KK * 10 + 5, none⟩ = some (.int .u64 0) := HOC.out 5 _ rfl
                      have q6 : wr.cell? ⟨ob, ooff + KK * 10 + 6, none⟩ = some (.slice none 0 0) := HOC.out 6 _ rfl
                      have q7 : wr.cell? ⟨ob, ooff + KK * 10 + 7, none⟩ = some (.int .u64 0) := HOC.out 7 _ rfl
                      have q8 : wr.cell? ⟨ob, ooff + KK * 10 + 8, none⟩ = some (.slice none 0 0) := HOC.out 8 _ rfl
                      have q9 : wr.cell? ⟨ob, ooff + KK * 10 + 9, none⟩ = some (.int .u64 0) := HOC.out 9 _ rfl
                      have hkkl : (KK : Int) < (O.length : Int) := by omega
                      have hkk0 : (0 : Int) ≤ (KK : Int) := by omega
                      have HBX := Lib.hid (hbel.alloc hbel.size (.cells #[.int .i64 12, .int .i64 oa, .int .i64 0, .int .i64 on, .int .i64 om, .int .u64 0, .slice none 0 0, .int .u64 0, .slice none 0 0, .int .u64 0] 106))
                      have HQB := Lib.hid ((Bx.new wr (cellO (oa, on, om)) 106).c 1 _ rfl)
                      clear hbel HOC
                      go_upto_region 28 with (fail)
                      obtain ⟨X, hX⟩ : ∃ X, X = wr.alloc (.cells #[.int .i64 12, .int .i64 oa, .int .i64 0, .int .i64 on, .int .i64 om, .int .u64 0, .slice none 0 0, .int .u64 0, .slice none 0 0, .int .u64 0] 106) := ⟨_, rfl⟩
                      have HQB2 : Hid (X.cell? ⟨wr.heap.size, 1, none⟩ = some (.int .i64 oa)) := Lib.hid (by rw [hX]; exact HQB.out)
                      rw [← hX] at HBX ⊢
                      clear hX HQB q0 q1 q2 q3 q4 q5 q6 q7 q8 q9
                      generalize wr.heap.size = D at *
                      have hqb := HQB2.out
                      have HRKX := Lib.hid (rd_later HRK7.out HBX.out)
                      go_wp2
                      go_loop [16, 98] (fun b i => ∃ (k : Nat) (q : Bool), k ≤ K.length ∧ i = .int .i64 (k : Int) ∧ b = .bool q ∧ Hid (q = decide (oa ∈ K.take k))) (fun _ i => K.length - (intOf i).toNat)
                      case atStart => exact ⟨0, false, Nat.zero_le _, rfl, rfl, by simp [Hid]⟩
                      case round =>
                        obtain ⟨k, q, hk, rfl, rfl, HQ⟩ := hrel
                        by_cases hlt : k < K.length
                        · obtain ⟨b, off, rfl, hb, hc⟩ := HRKX.out k _ (List.getElem?_eq_getElem hlt)
                          have HT := Lib.hid (take_mem_snoc (s := oa) (List.getElem?_eq_getElem hlt))
                          generalize K[k] = x at *
                          have hkl : (k : Int) < (K.length : Int) := by omega
                          have hk0 : (0 : Int) ≤ (k : Int) := by omega
                          cases q with
                          | true =>
                            have HQ2 : Hid (true = decide (oa ∈ K.take (k + 1))) := Lib.hid (by rw [HT.out, ← HQ.out]; rfl)
                            clear HT HQ
                            go_wp2
                            go_round
                            case rel => exact ⟨k + 1, true, by omega, by go_num, rfl, HQ2.out⟩
                            case measure => simp [intOf]; omega
                          | false =>
                            by_cases hx : x = oa
                            · have HQ2 : Hid (true = decide (oa ∈ K.take (k + 1))) := Lib.hid (by rw [HT.out, ← HQ.out, decide_eq_true hx]; rfl)
                              have hxb : (x == oa) = true := by rw [beq_iff_eq]; exact hx
                              clear HT HQ hx
                              go_wp2
                              go_round
                              case rel => exact ⟨k + 1, true, by omega, by go_num, rfl, HQ2.out⟩
                              case measure => simp [intOf]; omega
                            · have HQ2 : Hid (false = decide (oa ∈ K.take (k + 1))) := Lib.hid (by rw [HT.out, ← HQ.out, decide_eq_false hx]; rfl)
                              have hxb : (x == oa) = false := by rw [beq_eq_false_iff_ne]; exact hx
                              clear HT HQ hx
                              go_wp2
                              go_round
                              case rel => exact ⟨k + 1, false, by omega, by go_num, rfl, HQ2.out⟩
                              case measure => simp [intOf]; omega
                        · obtain rfl : k = K.length := by omega
                          rw [List.take_length] at HQ
                          obtain rfl : q = true := HQ.out.trans (decide_eq_true HHELD.out)
                          clear HQ hqb HRKX
                          have hcap : (KK : Int) + 1 ≤ (oc : Int) := by omega
                          have hk3 : (KK : Int) ≤ 3 := by omega
                          have HWX := Lib.hid (HW.out _ (Below.next HBO7.out HBX.out))
                          have HOX : Hid (RdO X 0 X.heap.size (some ⟨ob, ooff, none⟩) (O.take (KK + 1))) := Lib.hid fun k o ho => by
                            have hk2 : k < KK + 1 := by have := (List.getElem?_eq_some_iff.1 ho).1; rw [List.length_take] at this; omega
                            rw [List.getElem?_take, if_pos hk2] at ho
                            exact ((HRO7.out.below HBX.out).more (Nat.le_refl _) HBX.out.size) k o ho
                          go_wp2_with fail
                          refine (lDo HWX.out (by omega) HOX.out (m := KK + 1) (by rw [List.length_take]; omega) (by omega) rfl).mono ?_
                          rintro e w8 ⟨EA, ec, rfl, hw8, hb8⟩
                          have HBX8 := Lib.hid (Below.next HBX.out hb8)
                          have HW8 := Lib.hid hw8
                          have HRR8 := Lib.hid (rd_later HRR.out HBX8.out)
                          clear hb8 hw8 HBX HWX HOX
                          obtain ⟨M, hMe⟩ : ∃ M, M = lstW (doW ws (O.take (KK + 1))) := ⟨_, rfl⟩
                          have hml : M.length ≤ 4097 := by rw [hMe]; exact lstW_len _
                          have HMe := Lib.hid hMe
                          clear hMe
                          go_wp2_with fail
                          refine (lList (m := M.length) HW8.out HMe.out.symm rfl).mono ?_
                          rintro e w9 ⟨MA, mc, rfl, hrm, hb9⟩
                          have HRM := Lib.hid hrm
                          have HBX9 := Lib.hid (Below.next HBX8.out hb9)
                          have HRR9 := Lib.hid (rd_later HRR8.out hb9)
                          clear hrm hb9 HBX8 HRR8 HW8
                          go_wp2
                          go_loopw [19, 118] (fun v i wr => ∃ k : Nat, k ≤ M.length ∧ i = .int .i64 (k : Int) ∧ wr.ownsRow w9.heap.size 3 1 v (flt s (M.take k)).length ((flt s (M.take k)).map (Value.int .i64)) ∧ Below w9.heap.size w9 wr) (fun _ i _ => M.length - (intOf i).toNat)
                          case atStart => exact ⟨0, Nat.zero_le _, rfl, World.ownsRow_nil _ _ _ _, Below.refl _ _⟩
                          case round =>
                            obtain ⟨k, hk, rfl, hown, hbel⟩ := hrel
                            by_cases hlt : k < M.length
                            · obtain ⟨b, off, rfl, hb, hc0⟩ := HRM.out k _ (List.getElem?_eq_getElem (by omega))
                              have hc := (hbel.cell (p := ⟨b, off + k, none⟩) hb).trans hc0
                              have HT := Lib.hid (take_filter_snoc (s := s) (List.getElem?_eq_getElem (l := M) (i := k) (by omega)))
                              have hfl := flt_len s (M.take k)
                              rw [List.length_take] at hfl
                              clear hc0
                              generalize M[k] = x at *
                              have hkl : (k : Int) < (M.length : Int) := by omega
                              have hk0 : (0 : Int) ≤ (k : Int) := by omega
                              by_cases hx : x = s
                              · have HE : Hid (flt s (M.take (k + 1)) = flt s (M.take k)) := Lib.hid (by have := HT.out; rw [if_pos hx, List.append_nil] at this; exact this)
                                have hxb : (x != s) = false := by rw [bne_eq_false_iff_eq]; exact hx
                                have HO := Lib.hid hown
                                have HB := Lib.hid hbel
                                clear hown hbel HT hx hfl
                                go_wp2
                                go_roundw
                                case rel => exact ⟨k + 1, by omega, by go_num, by rw [HE.out]; exact HO.out, HB.out⟩
                                case measure => simp [intOf]; omega
                              · have HE : Hid (flt s (M.take (k + 1)) = flt s (M.take k) ++ [x]) := Lib.hid (by have := HT.out; rw [if_neg hx] at this; exact this)
                                have hxb : (x != s) = true := by rw [bne_iff_ne]; exact hx
                                have hsz := hbel.size
                                have HO := Lib.hid hown
                                have HB := Lib.hid hbel
                                clear HT hx hown hbel
                                go_wp2_with (at_builtin; refine wpList_append_own _ rfl _ _ 38 rfl w9.heap.size 3 i0 (.int .i64 0) 1 8 Try.underlying38 hi0 hz0 hz1 hz2 rfl (by decide) _ _ _ rfl (HO.out.alloc _) ⟨wr.heap.size, 0, none⟩ 1 1 [.int .i64 x] rfl rfl ?f1 ?f2 ?f3 ?f4 ?f5 ?_)
                                case f2 => intro u hu; simp at hu; subst hu; rfl
                                case f3 => unfold maxLen; omega
                                case f4 => omega
                                case f5 => simp; omega
                                · intro j u hj
                                  match j, hj with
                                  | 0, hj => simp at hj; subst hj; simp [Addr.add]
                                intro v' wn9 hown9 hgrow _
                                have hB9 := ownBase (HO.out.alloc (.cells #[.int .i64 x] 3)) (HB.out.alloc hsz _) (Nat.le_refl _) (by simp; omega) hgrow
                                have HO9 : Hid (wn9.ownsRow w9.heap.size 3 1 v' (flt s (M.take (k + 1))).length ((flt s (M.take (k + 1))).map (Value.int .i64))) := Lib.hid (by rw [HE.out]; simpa using hown9)
                                clear hown9 hgrow HO HE hfl HB
                                go_wp2
                                go_roundw
                                case rel => exact ⟨k + 1, by omega, by go_num, HO9.out, hB9⟩
                                case measure => simp [intOf]; omega
                            · obtain rfl : k = M.length := by omega
                              rw [List.take_of_length_le (by omega)] at hown
                              have HNOW : Hid (flt s M = flt s L) := Lib.hid ((by have := HFN.out.mid KK (by rw [← HOE.out]; omega); rw [← HOE.out, ← HMe.out] at this; exact this))
                              rw [HNOW.out] at hown
                              obtain ⟨NA, nc, rfl, _, _⟩ := ownSlice hown
                              have HB10 := Lib.hid hbel
                              have HRN := Lib.hid (Rd.of_own (f := Value.int .i64) hown)
                              clear hown hbel
                              go_wp2_with fail
                              refine (SameI_is rfl HRN.out (rd_later HRR9.out HB10.out) (by have := flt_len s L; omega)).mono ?_
                              rintro e w11 ⟨rfl, hb11⟩
                              have HZ := Lib.hid (Below.next HBX9.out (Below.next HB10.out hb11))
                              clear hb11
                              go_wp2
                              go_roundw
                              case rel => exact ⟨KK + 1, by omega, by go_num, HZ.out⟩
                              case measure => simp [intOf]; omega
                    · have hkx : KK = O.length := by omega
                      have hbe := Below.next HBO7.out hbel
                      have HWE := Lib.hid (HW.out _ hbe)
                      have HOE2 : Hid (RdO wr 0 wr.heap.size OA O) := Lib.hid ((HRO7.out.below hbel).more (Nat.le_refl _) hbel.size)
                      have HBE := Lib.hid hbe
                      have HRRe := Lib.hid (rd_later HRR.out hbel)
                      have HRLe := Lib.hid (rd_later HRL7.out hbel)
                      have HEE : Hid (Right (doW ws O) (s :: L)) := Lib.hid (by have := HFN.out.fin; rw [← HOE.out, HFE.out] at this; exact this)
                      have HCE : Hid (errOf (chkW (doW ws O)) = 0) := Lib.hid (by unfold errOf; rw [if_pos HEE.out.chk])
                      subst hkx
                      clear hbe hbel HRR HRO7 HRL7 HRK7 HBO7
                      go_wp2_with fail
                      refine (lDo HWE.out (by omega) HOE2.out rfl (by omega) rfl).mono ?_
                      rintro e w8 ⟨EA, ec, rfl, hw8, hb8⟩
                      have HBE8 := Lib.hid (Below.next HBE.out hb8)
                      have HW8 := Lib.hid hw8
                      have HRR8 := Lib.hid (rd_later HRRe.out hb8)
                      have HRL8 := Lib.hid (rd_later HRLe.out hb8)
                      clear hb8 hw8 HBE HWE HOE2 HRRe HRLe
                      go_wp2_with fail
                      refine (lListN (m := L.length + 1) HW8.out HEE.out.lst rfl).mono ?_
                      rintro e w9 ⟨QA, qc, rfl, hqc, hqr, hb9⟩
                      have HBE9 := Lib.hid (Below.next HBE8.out hb9)
                      have HW9 := Lib.hid (HW8.out.later hb9)
                      have HRR9 := Lib.hid (rd_later HRR8.out hb9)
                      have HRL9 := Lib.hid (rd_later HRL8.out hb9)
                      have HRQ9 := Lib.hid hqr
                      clear hb9 hqr HBE8 HW8 HRR8 HRL8
                      go_wp2_with fail
                      refine (lCheck HW9.out HCE.out).mono ?_
                      rintro e wC ⟨rfl, hbC⟩
                      have HBE10 := Lib.hid (Below.next HBE9.out hbC)
                      have HRL10 := Lib.hid (rd_later HRL9.out hbC)
                      have hRQ10 := rd_later HRQ9.out hbC
                      obtain ⟨zb, zoff, rfl, hzb, hz0⟩ := hRQ10 0 s rfl
                      have hz0' : wC.cell? ⟨zb, zoff, none⟩ = some (.int .i64 s) := hz0
                      obtain ⟨D1, hD1⟩ : ∃ D1, (if qc = 1 then (some ⟨zb, zoff, none⟩ : Option Addr) else some ⟨zb, zoff + 1, none⟩) = D1 := ⟨_, rfl⟩
                      have HRD : Hid (Rd (Value.int .i64) wC wC.heap.size D1 L) := Lib.hid fun k z hz => by
                        have hk := (List.getElem?_eq_some_iff.1 hz).1
                        rw [if_neg (by omega)] at hD1
                        obtain ⟨b2, off2, e1, e2, e3⟩ := hRQ10 (k + 1) z (by simpa using hz)
                        injection e1 with e1
                        injection e1 with e1 e4
                        subst e1 e4
                        exact ⟨_, _, hD1.symm, e2, by rw [show zoff + 1 + k = zoff + (k + 1) by omega]; exact e3⟩
                      clear hbC HBE9 HRL9 HRQ9 HW9 hRQ10 hz0
                      have hl1 : 0 < L.length + 1 := Nat.succ_pos _
                      have hl2 : (0 : Int) < ((L.length + 1 : Nat) : Int) := by omega
                      have hl3 : (1 : Int) ≤ ((L.length + 1 : Nat) : Int) := by omega
                      have hqc2 : ((L.length + 1 : Nat) : Int) ≤ (qc : Int) := by omega
                      go_wp2_with fail
                      refine (SameI_is rfl HRD.out HRL10.out (by omega)).mono ?_
                      rintro e wD ⟨rfl, hbD⟩
                      have HZ := Lib.hid (Below.next HBE10.out hbD)
                      clear hbD
                      go_wp2
                      go_ret
                      exact ⟨rfl, HZ.out⟩
end Go.Proofs.Ytkoelbdmpnelhaa
