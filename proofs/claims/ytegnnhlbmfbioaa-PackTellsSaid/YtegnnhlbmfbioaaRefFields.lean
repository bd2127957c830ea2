/- The contracts of the document's own answers for pack, fourth part: Fields and Join. -/
import Derived.Test.YtegnnhlbmfbioaaRefParts
namespace Go.Proofs.Ytegnnhlbmfbioaa
open Go.RowKit

theorem own_form {w : World} {base : Nat} {e : TypeId} {size n : Nat} {v : Value} {xs : List Value} (h : w.ownsRow base e size v n xs) : ∃ A c, v = .slice A n c := by
  rcases h.2 with ⟨rfl, h0⟩ | ⟨g', cap, cur, rfl, _⟩
  · exact ⟨none, 0, by rw [h0]⟩
  · exact ⟨_, _, rfl⟩

theorem fieldsL_at (x : Int) (zs : List Int) (k : Nat) (hk : k < zs.length) : (fieldsL x zs).take (k + 1) = (fieldsL x zs).take k ++ [x / 2 ^ sumW (zs.take k) % 2 ^ zs[k].toNat] := by
  induction zs generalizing x k with
  | nil => simp at hk
  | cons b r ih =>
    cases k with
    | zero => simp [fieldsL, sumW]
    | succ k =>
      have h := ih (x / 2 ^ b.toNat) k (by simpa using hk)
      simp only [fieldsL, List.take_succ_cons, List.cons_append, List.getElem_cons_succ, sumW]
      rw [h, Int.pow_add, Int.ediv_ediv_of_nonneg (Int.le_of_lt (two_pow_pos _))]

theorem sumW_take (zs : List Int) (k : Nat) (hk : k < zs.length) : sumW (zs.take (k + 1)) = sumW (zs.take k) + zs[k].toNat := by
  induction zs generalizing k with
  | nil => simp at hk
  | cons b r ih =>
    cases k with
    | zero => simp [sumW]
    | succ k =>
      have h := ih k (by simpa using hk)
      simp only [List.take_succ_cons, List.getElem_cons_succ, sumW]
      rw [h]
      omega

theorem sumW_take_le (zs : List Int) (k : Nat) : sumW (zs.take k) ≤ sumW zs := by
  induction zs generalizing k with
  | nil => simp
  | cons b r ih =>
    cases k with
    | zero => simp [sumW]
    | succ k =>
      have := ih k
      simp only [List.take_succ_cons, sumW]
      omega

set_option maxHeartbeats 1000000 in
theorem refFields_any (x : Int) (A : Option Addr) (zs : List Int) (c : Nat) (w : World) (h0 : 0 ≤ x) (h1 : x ≤ 18446744073709551615)
    (hA : Rd (Value.int .i64) w w.heap.size A zs) (hl : zs.length ≤ 9223372036854775807) :
    Calls Try.prog 10 #[.int .u64 x, .slice A zs.length c] w (FldOut x zs w) := by
  obtain ⟨i0, hi0, hz0, hz1, hz2⟩ := info_parts info_u64
  rcases cw_cases 64 zs with hcw | hcw
  · have hn := cw_len 64 zs hcw (by omega)
    have hsum := sumW_le 64 zs hcw (by omega)
    have hmem := Lib.hid (cw_mem 64 zs hcw)
    have HC := Lib.hid hcw
    have HF := Lib.hid (show fldL x zs = fieldsL x zs from by unfold fldL; rw [if_pos hcw])
    have hfl := Lib.hid (fieldsL_length x zs)
    go_enter Try.func10, Try.ntmps10
    go_wp2_with fail
    refine (widths_yes A zs c _ hA hl hcw).mono ?_
    rintro e w1 ⟨rfl, rfl⟩
    clear hcw
    go_wp2
    go_loopw [6, 7, 15] (fun ov av i wr => ∃ k : Nat, k ≤ zs.length ∧ i = .int .i64 k ∧ av = .int .i64 (sumW (zs.take k)) ∧
        wr.ownsRow w.heap.size 22 1 ov k (((fieldsL x zs).take k).map (Value.int .u64)) ∧ Below w.heap.size w wr)
      (fun _ _ i _ => zs.length - (intOf i).toNat)
    case atStart => exact ⟨0, Nat.zero_le _, rfl, rfl, World.ownsRow_nil _ _ _ _, Below.refl _ _⟩
    case round =>
      obtain ⟨k, hk, rfl, rfl, hown, hbel⟩ := hrel
      by_cases hlt : k < zs.length
      · obtain ⟨b, off, rfl, hb, hc⟩ := (hA.below hbel).at_ hlt
        have hzr := hmem.out _ (List.getElem_mem hlt)
        have hst := Lib.hid (sumW_take zs k hlt)
        have hfa := Lib.hid (fieldsL_at x zs k hlt)
        have hsl := sumW_take_le zs (k + 1)
        rw [hst.out] at hsl
        generalize zs[k] = z at hc hst hzr hsl hfa
        obtain ⟨hz0', hz1'⟩ := hzr
        have hsz : (sumW (zs.take k) : Int) + z ≤ 64 := by omega
        clear hsl
        go_wp2_with fail
        refine (part_any x _ z _ h0 h1 (by omega) (by omega) hsz).mono ?_
        rintro e w2 ⟨rfl, rfl⟩
        rw [Int.toNat_natCast]
        go_wp2_with (at_builtin; refine wpList_append_own _ rfl _ _ 23 rfl w.heap.size 22 i0 (.int .u64 0) 1 8 Try.underlying23 hi0 hz0 hz1 hz2 rfl (by decide) _ _ _ rfl (hown.alloc _) ⟨wr.heap.size, 0, none⟩ 1 1 [.int .u64 (x / 2 ^ sumW (zs.take k) % 2 ^ z.toNat)] rfl rfl ?c1 ?c2 ?c3 ?c4 ?c5 ?_)
        case c1 =>
          intro j u hj
          match j, hj with
          | 0, hj => simp at hj; subst hj; simp [Addr.add]
        case c2 => intro u hu; simp at hu; subst hu; rfl
        case c3 => unfold maxLen; omega
        case c4 => omega
        case c5 => have := hbel.size; simp; omega
        intro v' w2 hown' hgrow _
        have hB : Below w.heap.size w w2 := (hbel.alloc hbel.size _).grown hgrow (by have := hbel.size; simp; omega) (fun g hg => by
          rcases hown.2 with ⟨rfl, _⟩ | ⟨g', cap, cur, rfl, hg', _⟩
          · simp [Value.ownBlock] at hg
          · simp [Value.ownBlock] at hg; omega)
        clear hgrow hown
        go_wp2
        go_roundw
        case rel =>
          refine ⟨k + 1, by omega, by go_num, ?_, ?_, hB⟩
          · rw [hst.out]; congr 1; omega
          · rw [hfa.out]
            simpa using hown'
        case measure => simp [intOf]; omega
      · go_wp2
        go_ret2
        have hkk : k = zs.length := by omega
        subst hkk
        have hf : fldL x zs = (fieldsL x zs).take zs.length := by rw [HF.out, List.take_of_length_le (by rw [hfl.out]; omega)]
        obtain ⟨A', c', hv⟩ := own_form hown
        subst hv
        have hlen : (fldL x zs).length = zs.length := by rw [HF.out]; exact hfl.out
        refine ⟨A', c', ?_, ?_, hbel⟩
        · rw [hlen, HC.out]; rfl
        · rw [hf]; exact Rd.of_own hown
  · have HC := Lib.hid hcw
    have HF := Lib.hid (show fldL x zs = [] from by unfold fldL; rw [if_neg (by rw [hcw]; decide)])
    go_enter Try.func10, Try.ntmps10
    go_wp2_with fail
    refine (widths_no A zs c _ hA hl hcw).mono ?_
    rintro e w1 ⟨rfl, rfl⟩
    clear hcw
    go_wp2
    go_ret2
    refine ⟨none, 0, ?_, ?_, Below.refl _ _⟩
    · rw [HF.out, HC.out]; rfl
    · rw [HF.out]; exact Rd.nil

set_option maxHeartbeats 1000000 in
theorem refJoin_any (L : Option Addr) (ls : List Int) (d : Nat) (A : Option Addr) (zs : List Int) (c : Nat) (w : World)
    (hL : Rd (Value.int .u64) w w.heap.size L ls) (hA : Rd (Value.int .i64) w w.heap.size A zs) (hll : ls.length ≤ 9223372036854775807) (hl : zs.length ≤ 9223372036854775807)
    (hls : Hid (∀ x ∈ ls, 0 ≤ x ∧ x ≤ 18446744073709551615)) :
    Calls Try.prog 12 #[.slice L ls.length d, .slice A zs.length c] w (JoinOut ls zs w) := by
  rcases cw_cases 64 zs with hcw | hcw
  · by_cases hlen : ls.length = zs.length
    · have hn := cw_len 64 zs hcw (by omega)
      have HC := Lib.hid hcw
      have HJ := Lib.hid (show joinL ls zs = joinGo 0 0 ls zs from by unfold joinL; rw [if_pos hcw, if_pos hlen])
      have hneq : ((ls.length : Int) != (zs.length : Int)) = false := by simp [hlen]
      have HL := Lib.hid hlen
      have hll2 : (ls.length : Int) ≤ 64 := by omega
      clear hlen
      go_enter Try.func12, Try.ntmps12
      go_wp2_with fail
      refine (widths_yes A zs c _ hA hl hcw).mono ?_
      rintro e w1 ⟨rfl, rfl⟩
      clear hcw
      go_wp2
      go_loop [6, 7, 20] (fun xv pv i => ∃ (k place : Nat) (acc : Int), k ≤ ls.length ∧ i = .int .i64 k ∧ pv = .int .i64 place ∧ xv = .int .u64 acc ∧ place ≤ 64 ∧ 0 ≤ acc ∧ acc ≤ 18446744073709551615 ∧
          Hid (acc < 2 ^ place) ∧ Hid (cw (64 - place) (zs.drop k) = 0) ∧ Hid (joinL ls zs = joinGo acc place (ls.drop k) (zs.drop k)))
        (fun _ _ i => ls.length - (intOf i).toNat)
      case atStart => exact ⟨0, 0, 0, Nat.zero_le _, rfl, rfl, rfl, by omega, by omega, by omega, by simp [Hid], HC.out, HJ.out⟩
      case round =>
        obtain ⟨k, place, acc, hk, rfl, rfl, rfl, hp0, ha0, ha2, ha1, HW, HS⟩ := hrel
        by_cases hlt' : k < ls.length
        · have hlt : k < zs.length := by have := HL.out; omega
          obtain ⟨b, off, rfl, hb, hc⟩ := hA.at_ hlt
          obtain ⟨b', off', rfl, hb', hc'⟩ := hL.at_ hlt'
          have hxr := hls.out _ (List.getElem_mem hlt')
          have hs := Lib.hid (joinGo_step acc place ls zs k hlt hlt')
          have hwst := cw_step (64 - place) zs k hlt
          rw [HW.out] at hwst
          have hki : (k : Int) < (zs.length : Int) := by omega
          generalize zs[k] = z at hc hs hwst
          generalize ls[k] = l at hc' hs hxr
          have hzr : 1 ≤ z ∧ z ≤ 64 - place ∧ cw (64 - place - z) (zs.drop (k + 1)) = 0 := by
            split at hwst
            · exact absurd hwst (by decide)
            · exact ⟨by omega, by omega, hwst.symm⟩
          clear hwst
          obtain ⟨hz0, hz1, hwn0⟩ := hzr
          have hwn := Lib.hid hwn0
          clear hwn0
          obtain ⟨hx0, hx1⟩ := hxr
          have hml := mod_pow_le l z.toNat hx0
          by_cases hbig : 2 ^ z.toNat - 1 < l
          · have hbn : (l % 2 ^ z.toNat != l) = true := by rw [bne_iff_ne]; omega
            clear hml
            go_wp2_with fail
            refine (part_any l 0 z _ hx0 hx1 (by omega) (by omega) (by omega)).mono ?_
            rintro e w1 ⟨rfl, rfl⟩
            rw [show l / 2 ^ (0 : Int).toNat % 2 ^ z.toNat = l % 2 ^ z.toNat from by simp]
            go_wp2
            go_ret2
            exact ⟨by rw [HS.out, hs.out, if_pos hbig]; rfl, Drawn.refl⟩
          · have hbn : (l % 2 ^ z.toNat != l) = false := by rw [bne_eq_false_iff_eq, Int.emod_eq_of_lt hx0 (by omega)]
            have hop := or_part acc l place z.toNat ha0 ha1.out hx0 (by omega) (by omega)
            have hp64 : (2 : Int) ^ (place + z.toNat) ≤ 2 ^ 64 := two_pow_le (by omega)
            rw [p64] at hp64
            have hO : IntKind.u64.wrap (acc + IntKind.u64.wrap (l * 2 ^ place)) = acc + l * 2 ^ place := by
              have h1 := hop.2.2
              have h2 := hop.2.1
              have h3 : 0 ≤ l * 2 ^ place := Int.mul_nonneg hx0 (Int.le_of_lt (two_pow_pos _))
              rw [IntKind.wrap_u64, IntKind.wrap_u64]
              omega
            have HO := Lib.hid hO
            have HP := Lib.hid hop.2.2
            have HR := Lib.hid (show 0 ≤ acc + l * 2 ^ place ∧ acc + l * 2 ^ place ≤ 18446744073709551615 from ⟨hop.2.1, by have := hop.2.2; omega⟩)
            clear hop hml hp64 hO
            go_wp2_with fail
            refine (part_any l 0 z _ hx0 hx1 (by omega) (by omega) (by omega)).mono ?_
            rintro e w1 ⟨rfl, rfl⟩
            rw [show l / 2 ^ (0 : Int).toNat % 2 ^ z.toNat = l % 2 ^ z.toNat from by simp]
            go_wp2
            go_round
            case rel =>
              refine ⟨k + 1, place + z.toNat, acc + l * 2 ^ place, by omega, by go_num, ?_, ?_, by omega, HR.out.1, HR.out.2, HP.out, ?_, ?_⟩
              · rw [show ((place + z.toNat : Nat) : Int) = (place : Int) + z from by omega]
              · rw [HO.out]
              · have e := hwn.out
                rw [show (64 : Int) - (place : Int) - z = 64 - ((place + z.toNat : Nat) : Int) from by omega] at e
                exact e
              · have e := HS.out.trans hs.out
                rw [if_neg (by omega)] at e
                exact e
            case measure => simp [intOf]; omega
        · have hkz : zs.drop k = [] := List.drop_eq_nil_of_le (by have := HL.out; omega)
          have HE := Lib.hid (show joinL ls zs = (acc, 0) from by rw [HS.out, hkz, joinGo_nil])
          clear hkz
          go_wp2
          go_ret2
          exact ⟨by rw [HE.out]; rfl, Drawn.refl⟩
    · have HC := Lib.hid hcw
      have HJ := Lib.hid (show joinL ls zs = (0, 7) from by unfold joinL; rw [if_pos hcw, if_neg hlen])
      have hneq : ((ls.length : Int) != (zs.length : Int)) = true := by simp; omega
      clear hlen
      go_enter Try.func12, Try.ntmps12
      go_wp2_with fail
      refine (widths_yes A zs c _ hA hl hcw).mono ?_
      rintro e w1 ⟨rfl, rfl⟩
      clear hcw
      go_wp2
      go_ret2
      exact ⟨by rw [HJ.out]; rfl, Drawn.refl⟩
  · have HC := Lib.hid hcw
    have HJ := Lib.hid (show joinL ls zs = (0, 6) from by unfold joinL; rw [if_neg (by rw [hcw]; decide)])
    go_enter Try.func12, Try.ntmps12
    go_wp2_with fail
    refine (widths_no A zs c _ hA hl hcw).mono ?_
    rintro e w1 ⟨rfl, rfl⟩
    clear hcw
    go_wp2
    go_ret2
    exact ⟨by rw [HJ.out]; rfl, Drawn.refl⟩

end Go.Proofs.Ytegnnhlbmfbioaa
