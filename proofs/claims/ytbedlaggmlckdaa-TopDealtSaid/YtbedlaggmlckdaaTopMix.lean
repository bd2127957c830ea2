/- TopMixedBack, the walk of the law: numbers that are mixed, written, read, and unmixed, are what they were; with a byte less at the end the last one is not read. -/
import Derived.Test.YtbedlaggmlckdaaTopTwo
namespace Go.Proofs.Ytbedlaggmlckdaa
open Go.RowKit

theorem bytesF_ne (f n : Nat) : bytesF f n ≠ [] := by
  cases f with
  | zero => simp [bytesF]
  | succ f =>
    unfold bytesF
    split <;> simp

/-- A number's bytes without the last one end too soon. -/
theorem numGo_short : ∀ (f n i acc : Nat), i + f = 9 → numGo (bytesF f n).dropLast i acc = (0, 0, 8) := by
  intro f
  induction f with
  | zero => intro n i acc _; simp [bytesF, numGo]
  | succ f ih =>
    intro n i acc hi
    unfold bytesF
    split
    · have hb : (UInt8.ofNat (n % 128 + 128)).toNat = n % 128 + 128 := ofNat_small _ (by omega)
      rw [List.dropLast_cons_of_ne_nil (bytesF_ne _ _), numGo, hb, if_neg (by omega), if_pos (by omega)]
      exact ih _ _ _ (by omega)
    · simp [numGo]
theorem step_short (n : Nat) : numStep (bs (bytesN n).dropLast) 0 = (0, bs (bytesN n).dropLast, 8) := by
  refine step_err (n := 0) (k := 0) ?_ (by decide)
  rw [bs_list]
  exact (numGo_short 9 n 0 0 rfl).symm

theorem numsB_ne (l : List Nat) (h : l ≠ []) : numsB l ≠ [] := by
  cases l with
  | nil => exact absurd rfl h
  | cons a l => simp [numsB, bytesN, bytesF_ne]
/-- A step of the reader that has a byte less: ahead of the last number, and at it. -/
theorem step_less (l : List Nat) (k : Nat) (h : k + 1 < l.length) (hn : l[k] < 18446744073709551616) : numStep (bs (numsB (l.drop k)).dropLast) 0 = (l[k], bs (numsB (l.drop (k + 1))).dropLast, 0) := by
  have hne : numsB (l.drop (k + 1)) ≠ [] := numsB_ne _ (by
    intro e
    have := congrArg List.length e
    rw [List.length_drop] at this
    simp at this
    omega)
  rw [drop_nums l k (by omega), List.dropLast_append_of_ne_nil hne, numStep_bytes _ hn]
theorem step_last (l : List Nat) (k : Nat) (h : k + 1 = l.length) : numStep (bs (numsB (l.drop k)).dropLast) 0 = (0, bs (numsB (l.drop k)).dropLast, 8) := by
  rw [drop_nums l k (by omega), List.drop_eq_nil_of_le (by omega), numsB, List.append_nil, step_short]
theorem less_size (l : List Nat) (k : Nat) (h : l.length ≤ 5000) : (bs (numsB (l.drop k)).dropLast).size ≤ maxLen := by
  have h1 := numsB_length (l.drop k)
  rw [List.length_drop] at h1
  rw [bs_size, List.length_dropLast]
  unfold maxLen
  omega
theorem numsB_size (l : List Nat) (k : Nat) (h : l.length ≤ 5000) : (bs (numsB (l.drop k))).size ≤ maxLen := by
  have h1 := numsB_length (l.drop k)
  rw [List.length_drop] at h1
  rw [bs_size]
  unfold maxLen
  omega
theorem step_nums' (l : List Nat) (k : Nat) (h : k < l.length) (hn : l[k] < 18446744073709551616) : numStep (bs (numsB (l.drop k))) 0 = (l[k], bs (numsB (l.drop (k + 1))), 0) := by
  rw [drop_nums l k h, numStep_bytes _ hn]
theorem bs_less (l : List UInt8) : (bs l).extract 0 ((bs l).size - 1) = bs l.dropLast := by
  rw [bs_ext, bs_size, List.drop_zero, List.dropLast_eq_take]

/-- What a step of the reader that has a byte less leaves. -/
def LessAt (w : World) (b n : Nat) (l : List Nat) (k : Nat) : Prop := (k < n ∧ RdAt w b (bs (numsB (l.drop k)).dropLast) 0) ∨ (k = n ∧ ∃ u, RdAt w b u 8)

/-- A number and its mix, with what the program's calls answer of both. -/
def Mixed (z : Int) (m : Nat) : Prop := ∃ x : Nat, z = (x : Int) ∧ m < 18446744073709551616 ∧
  Hid (∀ w, Calls Try.prog 11 #[.int .u64 x] w fun e w' => e = .returned (.int .u64 m) ∧ w = w') ∧
  Hid (∀ w, Calls Try.prog 13 #[.int .u64 m] w fun e w' => e = .returned (.int .u64 x) ∧ w = w')
theorem Mixed.of (x : BitVec 64) : Mixed (x.toNat : Int) (mixB x).toNat := by
  refine ⟨x.toNat, rfl, (mixB x).isLt, Mix_any x, ?_⟩
  have h := Unmix_any (mixB x)
  rw [unmix_mix] at h
  exact h
theorem mixed_list (zs : List Int) (hz : ∀ z ∈ zs, 0 ≤ z ∧ z ≤ 18446744073709551615) : ∃ ns : List Nat, ns.length = zs.length ∧ ∀ k (h : k < zs.length) (h' : k < ns.length), Mixed zs[k] ns[k] := by
  refine ⟨zs.map (fun z => (mixB (BitVec.ofInt 64 z)).toNat), List.length_map _, fun k h h' => ?_⟩
  have h3 := hz _ (List.getElem_mem h)
  have e : zs[k] = ((BitVec.ofInt 64 zs[k]).toNat : Int) := by rw [BitVec.toNat_ofInt]; omega
  have := Mixed.of (BitVec.ofInt 64 zs[k])
  rw [← e] at this
  simpa using this

set_option maxRecDepth 100000 in
set_option maxHeartbeats 8000000 in
theorem TopMixedBack_walk (A : Option Addr) (zs : List Int) (c : Nat) (w : World)
    (hA : Rd (Value.int .u64) w w.heap.size A zs) (hl : zs.length ≤ 9223372036854775807) (hz : Hid (∀ z ∈ zs, 0 ≤ z ∧ z ≤ 18446744073709551615)) :
    Calls Try.prog 9 #[.slice A zs.length c] w fun e w' => e = .returned (.bool true) ∧ Below w.heap.size w w' := by
  by_cases h1 : 100 < zs.length
  · have hi : (100 : Int) < (zs.length : Int) := by omega
    go_enter Try.func9, Try.ntmps9
    go_wp2_with fail
    refine (begins2_any _).mono ?_
    rintro e w1 ⟨rfl, hb⟩
    go_wp2
    go_ret
    exact ⟨rfl, hb⟩
  · have hi : (zs.length : Int) ≤ 100 := by omega
    have hzl : zs.length ≤ 100 := by omega
    obtain ⟨ns, hnl, hxs⟩ := mixed_list zs hz.out
    have HXS := Lib.hid hxs
    have HNL := Lib.hid hnl
    clear hnl h1 hxs
    go_enter Try.func9, Try.ntmps9
    go_wp2_with fail
    refine (begins2_any _).mono ?_
    rintro e w1 ⟨rfl, hbel⟩
    go_wp2
    go_loopw [3, 17] (fun v i wr => ∃ (k : Nat) (u : ByteArray), k ≤ zs.length ∧ i = .int .i64 k ∧ v = .string u ∧ u.size ≤ 10 * k ∧ Hid (u = bs (numsB (ns.take k))) ∧ Below w.heap.size w wr)
      (fun _ i _ => zs.length - (intOf i).toNat)
    case atStart => exact ⟨0, _, by omega, rfl, rfl, Nat.le_refl _, by simp [Hid, numsB, bs], hbel⟩
    case round =>
      obtain ⟨k, u, hk, rfl, rfl, hu, HU, hbel⟩ := hrel
      by_cases hlt : k < zs.length
      · have hlt' : k < ns.length := by have := HNL.out; omega
        obtain ⟨b, off, rfl, hbb, hc⟩ := (hA.below hbel).at_ hlt
        obtain ⟨x, hzx, hm, HM, _⟩ := HXS.out k hlt hlt'
        rw [hzx] at hc
        clear hzx
        have HT := Lib.hid (take_nums ns k hlt')
        have HN := Lib.hid (fun w => litNum_any ns[k] w hm)
        have hbl : (bs (bytesN ns[k])).size ≤ 10 := by rw [bs_size]; exact bytesN_length _
        generalize bs (bytesN ns[k]) = nb at *
        generalize ns[k] = m at *
        clear hm
        have hkz : (k : Int) < (zs.length : Int) := by omega
        go_wp2_with fail
        refine (HM.out _).mono ?_
        rintro e w' ⟨rfl, rfl⟩
        go_wp2_with fail
        refine (HN.out _).mono ?_
        rintro e w2 ⟨rfl, hb⟩
        have hB2 := hbel.trans (hb.mono hbel.size)
        clear hb hbel
        go_wp2
        go_roundw
        case rel => exact ⟨k + 1, u ++ nb, by omega, by go_num, rfl, by rw [ByteArray.size_append]; omega, by rw [Hid, HT.out, ← HU.out], hB2⟩
        case measure => simp [intOf]; omega
      · obtain rfl : k = zs.length := by omega
        have HU2 : Hid (u = bs (numsB ns)) := by
          rw [Hid, HU.out, List.take_of_length_le (by have := HNL.out; omega)]
        have hu6 : u.size ≤ 1000 := by omega
        clear HU hu
        have HN5 : Hid (ns.length ≤ 5000) := by rw [Hid]; have := HNL.out; omega
        go_wp2_with fail
        refine (New_any u _).mono ?_
        rintro e w2 ⟨rfl, hr, hsz, hb⟩
        have hB2 := hbel.trans (hb.mono hbel.size)
        have hge := hbel.size
        clear hb hbel hsz
        generalize wr.heap.size = b1 at *
        rw [HU2.out] at hr
        go_wp2
        go_loopw [33] (fun i wr => ∃ k : Nat, k ≤ zs.length ∧ i = .int .i64 k ∧ RdAt wr b1 (bs (numsB (ns.drop k))) 0 ∧ Below w.heap.size w wr)
          (fun i _ => zs.length - (intOf i).toNat)
        case atStart => exact ⟨0, by omega, rfl, by simpa using hr, hB2⟩
        case round =>
          obtain ⟨k, hk, rfl, hr, hbel⟩ := hrel
          by_cases hlt : k < zs.length
          · have hlt' : k < ns.length := by have := HNL.out; omega
            obtain ⟨b, off, rfl, hbb, hc⟩ := (hA.below hbel).at_ hlt
            obtain ⟨x, hzx, hm, _, HUN⟩ := HXS.out k hlt hlt'
            rw [hzx] at hc
            clear hzx
            have HN := Lib.hid (Num_any b1 _ 0 wr hr (numsB_size ns k HN5.out))
            rw [step_nums' ns k hlt' hm] at HN
            clear hr hm
            generalize ns[k] = m at *
            have hkz : (k : Int) < (zs.length : Int) := by omega
            go_wp2_with fail
            refine HN.out.mono ?_
            rintro e w2 ⟨rfl, hr2, hT⟩
            have hB2 := hbel.trans (hT.below hge)
            clear hT hbel HN
            go_wp2_with fail
            refine (HUN.out _).mono ?_
            rintro e w' ⟨rfl, rfl⟩
            go_wp2
            go_roundw
            case rel => exact ⟨k + 1, by omega, by go_num, hr2, hB2⟩
            case measure => simp [intOf]; omega
          · obtain rfl : k = zs.length := by omega
            have hr0 : RdAt wr b1 (bs []) 0 := by
              rw [List.drop_eq_nil_of_le (by have := HNL.out; omega)] at hr
              exact hr
            clear hr
            have HW := Lib.hid (Why_any b1 (bs []) 0 wr hr0)
            have hLeft := Left_any b1 (bs []) 0 wr hr0
            rw [bs_size] at hLeft
            have HL := Lib.hid hLeft
            clear hLeft hr0
            rcases Nat.eq_zero_or_pos zs.length with h0 | h0
            · have hu0 : u.toList = [] := by
                have e : ns = [] := List.length_eq_zero_iff.1 (by have := HNL.out; omega)
                rw [HU2.out, e]
                exact ByteArray.toList_mk []
              have hz0 : ((zs.length : Int) == 0) = true := by simp [h0]
              clear h0
              go_wp2_with fail
              refine HW.out.mono ?_
              rintro e w' ⟨rfl, rfl⟩
              go_wp2_with fail
              refine HL.out.mono ?_
              rintro e w' ⟨rfl, rfl⟩
              go_wp2
              go_ret
              exact ⟨rfl, hbel⟩
            · have hz0 : ((zs.length : Int) == 0) = false := bne0 (by omega)
              have hus : 0 < u.size := by
                rw [HU2.out, bs_size]
                exact List.length_pos_iff.2 (numsB_ne _ (by
                  intro e
                  have := HNL.out
                  rw [e] at this
                  simp at this
                  omega))
              have hu0 : ((u.size : Int) == 0) = false := bne0 (by omega)
              have hui : (1 : Int) ≤ (u.size : Int) := by omega
              go_wp2_with fail
              refine HW.out.mono ?_
              rintro e w' ⟨rfl, rfl⟩
              go_wp2_with fail
              refine HL.out.mono ?_
              rintro e w' ⟨rfl, rfl⟩
              clear HW HL
              have hex : u.extract 0 (u.size - 1) = bs (numsB (ns.drop 0)).dropLast := by
                rw [HU2.out, bs_less]
                rfl
              obtain ⟨q, hq⟩ : ∃ q, u.extract 0 (u.size - 1) = q := ⟨_, rfl⟩
              rw [hq] at hex
              have HEX := Lib.hid hex
              clear hex
              go_wp2_with fail
              refine (New_any _ _).mono ?_
              rintro e w3 ⟨rfl, hr3, hsz, hb⟩
              have hB3 := hbel.trans (hb.mono hbel.size)
              have hge2 := hbel.size
              rw [HEX.out] at hr3
              clear hb hbel hsz hq
              generalize wr.heap.size = b2 at *
              have HN0 : Hid (ns.length = zs.length) := HNL.out
              go_wp2
              go_loopw [69] (fun i wr => ∃ k : Nat, k ≤ zs.length ∧ i = .int .i64 k ∧ LessAt wr b2 zs.length ns k ∧ Below w.heap.size w wr)
                (fun i _ => zs.length - (intOf i).toNat)
              case atStart => exact ⟨0, by omega, rfl, .inl ⟨h0, hr3⟩, hB3⟩
              case round =>
                obtain ⟨k, hk, rfl, hla, hbel⟩ := hrel
                by_cases hlt : k < zs.length
                · have hlt' : k < ns.length := by have := HNL.out; omega
                  obtain ⟨x, _, hm, _, _⟩ := HXS.out k hlt hlt'
                  have hkz : (k : Int) < (zs.length : Int) := by omega
                  rcases hla with ⟨_, hr⟩ | ⟨he, _⟩
                  · have hnum := Num_any b2 _ 0 wr hr (less_size ns k HN5.out)
                    obtain ⟨v, s2, y2, hst, hnext⟩ : ∃ v s2 y2, numStep (bs (numsB (ns.drop k)).dropLast) 0 = (v, s2, y2) ∧ ((k + 1 < zs.length ∧ s2 = bs (numsB (ns.drop (k + 1))).dropLast ∧ y2 = 0) ∨ (k + 1 = zs.length ∧ y2 = 8)) := by
                      have := HNL.out
                      by_cases hk1 : k + 1 < ns.length
                      · exact ⟨_, _, _, step_less ns k hk1 hm, .inl ⟨by omega, rfl, rfl⟩⟩
                      · exact ⟨_, _, _, step_last ns k (by omega), .inr ⟨by omega, rfl⟩⟩
                    rw [hst] at hnum
                    have HN := Lib.hid hnum
                    have HNX := Lib.hid hnext
                    clear hnum hst hnext hr hm
                    go_wp2_with fail
                    refine HN.out.mono ?_
                    rintro e w4 ⟨rfl, hr4, hT⟩
                    have hB4 := hbel.trans (hT.below hge2)
                    clear hT hbel HN
                    have hla2 : LessAt w4 b2 zs.length ns (k + 1) := by
                      rcases HNX.out with ⟨h1, h2, h3⟩ | ⟨h1, h3⟩
                      · rw [h2, h3] at hr4
                        exact .inl ⟨h1, hr4⟩
                      · rw [h3] at hr4
                        exact .inr ⟨h1, _, hr4⟩
                    clear hr4
                    go_wp2
                    go_roundw
                    case rel => exact ⟨k + 1, by omega, by go_num, hla2, hB4⟩
                    case measure => simp [intOf]; omega
                  · omega
                · rcases hla with ⟨hlt2, _⟩ | ⟨he, t8, hr⟩
                  · omega
                  · clear he
                    have hge0 : (zs.length : Int) ≤ (k : Int) := by omega
                    go_wp2_with fail
                    refine (Why_any b2 t8 8 _ hr).mono ?_
                    rintro e w' ⟨rfl, rfl⟩
                    go_wp2
                    go_ret
                    exact ⟨rfl, hbel⟩

end Go.Proofs.Ytbedlaggmlckdaa
