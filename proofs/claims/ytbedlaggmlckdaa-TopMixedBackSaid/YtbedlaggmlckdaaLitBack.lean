/- LittleBack, the walk of the law: what was written is read, one thing behind the other; and bytes that are read are those of what is read. -/
import Derived.Test.YtbedlaggmlckdaaLitBackPlain
import Derived.Test.YtbedlaggmlckdaaLitLives
import Derived.Test.YtbedlaggmlckdaaLitWord
namespace Go.Proofs.Ytbedlaggmlckdaa
open Go.RowKit

theorem size_list (t : ByteArray) : t.data.toList.length = t.size := Array.length_toList
theorem drop_nums (l : List Nat) (k : Nat) (h : k < l.length) : numsB (l.drop k) = bytesN l[k] ++ numsB (l.drop (k + 1)) := by
  rw [List.drop_eq_getElem_cons h, numsB]
theorem drop_texts (l : List ByteArray) (k : Nat) (h : k < l.length) : textsB (l.drop k) = (bytesN l[k].data.toList.length ++ l[k].data.toList) ++ textsB (l.drop (k + 1)) := by
  rw [List.drop_eq_getElem_cons h, textsB]
theorem take_nums (l : List Nat) (k : Nat) (h : k < l.length) : bs (numsB (l.take (k + 1))) = bs (numsB (l.take k)) ++ bs (bytesN l[k]) := by
  rw [List.take_succ_eq_append_getElem h, numsB_snoc, bs_app]
theorem take_texts (l : List ByteArray) (k : Nat) (h : k < l.length) (p : List UInt8) : bs (p ++ textsB (l.take (k + 1))) = bs (p ++ textsB (l.take k)) ++ bs (bytesN l[k].size ++ l[k].data.toList) := by
  rw [List.take_succ_eq_append_getElem h, textsB_snoc, bs_app, size_list, List.append_assoc]

/-- Two readers lie side by side. -/
theorem two_readers {w1 w2 : World} {b : Nat} {s : ByteArray} {y : Nat} (h : RdAt w1 b s y) (hb : Below w1.heap.size w1 w2) : RdAt w2 b s y := h.below hb h.block

theorem step_nums (l : List Nat) (k : Nat) (h : k < l.length) (hn : l[k] < 18446744073709551616) (T : List UInt8) : numStep (bs (numsB (l.drop k) ++ T)) 0 = (l[k], bs (numsB (l.drop (k + 1)) ++ T), 0) := by
  rw [drop_nums l k h, List.append_assoc, numStep_bytes _ hn]
theorem step_texts (l : List ByteArray) (k : Nat) (h : k < l.length) (hs : l[k].size ≤ 1000) : textStep (bs (textsB (l.drop k))) 0 = (l[k], bs (textsB (l.drop (k + 1))), 0) := by
  rw [drop_texts l k h]
  refine (tstep_ok (textR_bytes _ _ (by rw [size_list]; omega))).trans ?_
  rw [← bs_of]
theorem nums_size (l : List Nat) (k : Nat) (T : List UInt8) (h : l.length ≤ 60) (hT : T.length ≤ 65000) : (bs (numsB (l.drop k) ++ T)).size ≤ maxLen := by
  have h1 := numsB_length (l.drop k)
  rw [List.length_drop] at h1
  rw [bs_size, List.length_append]
  unfold maxLen
  omega
theorem texts_size (l : List ByteArray) (k : Nat) (h : l.length ≤ 60) (hs : ∀ t ∈ l, t.size ≤ 1000) : (bs (textsB (l.drop k))).size ≤ maxLen := by
  have h1 := textsB_length (l.drop k) (fun t ht => hs t (List.mem_of_mem_drop ht))
  rw [List.length_drop] at h1
  rw [bs_size]
  unfold maxLen
  omega
/-- What the last question meets: an error, and nothing read; or a number whose bytes are those that were read. -/
theorem last_num (s : ByteArray) : (∃ y, y ≠ 0 ∧ numStep s 0 = (0, s, y)) ∨ (∃ m k, m < 18446744073709551616 ∧ numStep s 0 = (m, s.extract k s.size, 0) ∧ (bs (bytesN m)).size = k ∧ k ≤ s.size ∧ s.extract 0 k = bs (bytesN m)) := by
  have hlt := numL_lt s.data.toList
  have hz : numStep s 0 = if (numL s.data.toList).2.2 = 0 then ((numL s.data.toList).1, restB s (numL s.data.toList), 0) else (0, s, (numL s.data.toList).2.2) := by rw [numStep, if_pos rfl]
  rcases h : numL s.data.toList with ⟨m, k, y⟩
  rw [h] at hz hlt
  by_cases hy : y = 0
  · subst hy
    obtain ⟨h1, h2, h3⟩ := numL_back _ m k h
    refine .inr ⟨m, k, hlt, ?_, by rw [bs_size, ← h2], by rw [← size_list]; exact h3, ?_⟩
    · rw [hz]
      exact if_pos rfl
    · rw [h1, bs_of (s.extract 0 k), bs_of s, bs_ext, bs_list, bs_list, List.drop_zero]
  · exact .inl ⟨y, hy, by rw [hz]; exact if_neg hy⟩

set_option maxRecDepth 100000 in
set_option maxHeartbeats 8000000 in
theorem LittleBack_walk (A : Option Addr) (zs : List Int) (c : Nat) (B : Option Addr) (ts : List ByteArray) (d : Nat) (bytes : ByteArray) (w : World)
    (hA : Rd (Value.int .u64) w w.heap.size A zs) (hl : zs.length ≤ 9223372036854775807) (hz : Hid (∀ z ∈ zs, 0 ≤ z ∧ z ≤ 18446744073709551615))
    (hB : Rd Value.string w w.heap.size B ts) (hl2 : ts.length ≤ 9223372036854775807) (ht : Hid (∀ t ∈ ts, t.size ≤ maxLen)) (hbs : bytes.size ≤ maxLen) :
    Calls Try.prog 7 #[.slice A zs.length c, .slice B ts.length d, .string bytes] w fun e w' => e = .returned (.bool true) ∧ Below w.heap.size w w' := by
  by_cases h1 : 60 < zs.length
  · have hi : (60 : Int) < (zs.length : Int) := by omega
    go_enter Try.func7, Try.ntmps7
    go_wp2_with fail
    refine (lit_lives_any _).mono ?_
    rintro e w1 ⟨rfl, hb⟩
    go_wp2
    go_ret
    exact ⟨rfl, hb⟩
  · by_cases h2 : 60 < ts.length
    · have hi : (zs.length : Int) ≤ 60 := by omega
      have hj : (60 : Int) < (ts.length : Int) := by omega
      go_enter Try.func7, Try.ntmps7
      go_wp2_with fail
      refine (lit_lives_any _).mono ?_
      rintro e w1 ⟨rfl, hb⟩
      go_wp2
      go_ret
      exact ⟨rfl, hb⟩
    · have d1 : decide ((60 : Int) < (zs.length : Int)) = false := decide_eq_false (by omega)
      have d2 : decide ((60 : Int) < (ts.length : Int)) = false := decide_eq_false (by omega)
      have hzl : zs.length ≤ 60 := by omega
      have htl : ts.length ≤ 60 := by omega
      obtain ⟨ns, hns⟩ : ∃ ns : List Nat, ns = zs.map Int.toNat := ⟨_, rfl⟩
      have hnl : ns.length = zs.length := by rw [hns, List.length_map]
      have HNS : Hid (∀ k (h : k < zs.length) (h' : k < ns.length), zs[k] = (ns[k] : Int) ∧ ns[k] < 18446744073709551616) := by
        intro k h h'
        have h3 := hz.out _ (List.getElem_mem h)
        have e : ns[k] = zs[k].toNat := by simp [hns]
        rw [e]
        omega
      have HNL := Lib.hid hnl
      clear hns hnl h1 h2
      go_enter Try.func7, Try.ntmps7
      go_wp2_with fail
      refine (lit_lives_any _).mono ?_
      rintro e w1 ⟨rfl, hbel⟩
      go_wp2
      go_loopw [7, 32] (fun v i wr => ∃ (k : Nat) (u : ByteArray), k ≤ zs.length ∧ i = .int .i64 k ∧ v = .string u ∧ u.size ≤ 10 * k ∧ Hid (u = bs (numsB (ns.take k))) ∧ Below w.heap.size w wr)
        (fun _ i _ => zs.length - (intOf i).toNat)
      case atStart => exact ⟨0, _, by omega, rfl, rfl, Nat.le_refl _, by simp [Hid, numsB, bs], hbel⟩
      case round =>
        obtain ⟨k, u, hk, rfl, rfl, hu, HU, hbel⟩ := hrel
        by_cases hlt : k < zs.length
        · have hlt' : k < ns.length := by have := HNL.out; omega
          obtain ⟨b, off, rfl, hbb, hc⟩ := (hA.below hbel).at_ hlt
          obtain ⟨hzn, hnb⟩ := HNS.out k hlt hlt'
          rw [hzn] at hc
          clear hzn
          have HT := Lib.hid (take_nums ns k hlt')
          have HN := Lib.hid (fun w => litNum_any ns[k] w hnb)
          have hbl : (bs (bytesN ns[k])).size ≤ 10 := by rw [bs_size]; exact bytesN_length _
          generalize bs (bytesN ns[k]) = nb at *
          generalize ns[k] = n at *
          clear hnb
          have hkz : (k : Int) < (zs.length : Int) := by omega
          go_wp2_with fail
          refine (HN.out _).mono ?_
          rintro e w2 ⟨rfl, hb⟩
          have hB2 := hbel.trans (hb.mono hbel.size)
          clear hb hbel
          go_wp2
          go_roundw
          case rel => exact ⟨k + 1, u ++ nb, by omega, by go_num, rfl, by rw [ByteArray.size_append]; omega, by rw [Hid, HT.out, ← HU.out], hB2⟩
          case measure => simp [intOf]; omega
        · obtain rfl : k = zs.length := by omega
          have HU2 : Hid (u = bs (numsB ns)) := by
            rw [Hid, HU.out, List.take_of_length_le (by have := HNL.out; omega)]
          have hu6 : u.size ≤ 600 := by omega
          clear HU hu
          go_wp2
          go_loopw [7, 43] (fun v i wr => ∃ (k : Nat) (u : ByteArray), k ≤ ts.length ∧ i = .int .i64 k ∧ v = .string u ∧ u.size ≤ 600 + 1010 * k ∧ Hid (u = bs (numsB ns ++ textsB (ts.take k))) ∧ Hid (∀ t ∈ ts.take k, t.size ≤ 1000) ∧ Below w.heap.size w wr)
            (fun _ i _ => ts.length - (intOf i).toNat)
          case atStart => exact ⟨0, u, by omega, rfl, rfl, hu6, by simpa [Hid, textsB] using HU2.out, by intro t h; simp at h, hbel⟩
          case round =>
            obtain ⟨k, u, hk, rfl, rfl, hu, HU, HS, hbel⟩ := hrel
            by_cases hlt : k < ts.length
            · obtain ⟨b, off, rfl, hbb, hc⟩ := (hB.below hbel).at_ hlt
              have htm := ht.out _ (List.getElem_mem hlt)
              unfold maxLen at htm
              have hkt : (k : Int) < (ts.length : Int) := by omega
              by_cases hbig : 1000 < ts[k].size
              · generalize ts[k] = t at *
                have hbi : (1000 : Int) < (t.size : Int) := by omega
                go_wp2
                go_ret
                exact ⟨rfl, hbel⟩
              · have HT := Lib.hid (take_texts ts k hlt (numsB ns))
                have HS2 : Hid (∀ t ∈ ts.take (k + 1), t.size ≤ 1000) := by
                  intro t h
                  rw [List.take_succ_eq_append_getElem hlt, List.mem_append] at h
                  rcases h with h | h
                  · exact HS.out t h
                  · rw [List.mem_singleton.1 h]; omega
                have HN := Lib.hid (fun w => litText_any ts[k] w (by omega))
                have hbl : (bs (bytesN ts[k].size ++ ts[k].data.toList)).size ≤ 1010 := by
                  rw [bs_size, List.length_append, size_list]
                  have := bytesN_length ts[k].size
                  omega
                generalize bs (bytesN ts[k].size ++ ts[k].data.toList) = nb at *
                generalize ts[k] = t at *
                have hbi : (t.size : Int) ≤ 1000 := by omega
                clear htm hbig
                go_wp2_with fail
                refine (HN.out _).mono ?_
                rintro e w2 ⟨rfl, hb⟩
                have hB2 := hbel.trans (hb.mono hbel.size)
                clear hb hbel
                go_wp2
                go_roundw
                case rel => exact ⟨k + 1, u ++ nb, by omega, by go_num, rfl, by rw [ByteArray.size_append]; omega, by rw [Hid, HT.out, ← HU.out], HS2, hB2⟩
                case measure => simp [intOf]; omega
            · obtain rfl : k = ts.length := by omega
              have HU3 : Hid (u = bs (numsB ns ++ textsB ts)) := by
                rw [Hid, HU.out, List.take_length]
              have HS3 : Hid (∀ t ∈ ts, t.size ≤ 1000) := by
                have := HS.out
                rw [List.take_length] at this
                exact this
              have hu7 : u.size ≤ 70000 := by omega
              clear HU hu HS
              go_wp2_with fail
              refine (New_any u _).mono ?_
              rintro e w2 ⟨rfl, hr, hsz, hb⟩
              have hB2 := hbel.trans (hb.mono hbel.size)
              go_wp2_with fail
              refine (New_any bytes _).mono ?_
              rintro e w3 ⟨rfl, hq, hsz2, hb2⟩
              have hr3 := two_readers hr hb2
              have hB3 := hB2.trans (hb2.mono hB2.size)
              have hge := hbel.size
              clear hr hb hB2 hb2 hbel
              rw [hsz] at hq ⊢
              clear hsz hsz2
              generalize wr.heap.size = b1 at *
              have HZ60 : Hid (ns.length ≤ 60) := by have := HNL.out; rw [Hid]; omega
              have HTL : Hid ((textsB ts).length ≤ 65000) := by
                have := textsB_length ts HS3.out
                rw [Hid]
                omega
              rw [HU3.out] at hr3
              clear HU3 hu7
              go_wp2
              go_loopw [67] (fun i wr => ∃ k : Nat, k ≤ zs.length ∧ i = .int .i64 k ∧ RdAt wr b1 (bs (numsB (ns.drop k) ++ textsB ts)) 0 ∧ RdAt wr (b1 + 1) bytes 0 ∧ Below w.heap.size w wr)
                (fun i _ => zs.length - (intOf i).toNat)
              case atStart => exact ⟨0, by omega, rfl, by simpa using hr3, hq, hB3⟩
              case round =>
                obtain ⟨k, hk, rfl, hr, hq, hbel⟩ := hrel
                by_cases hlt : k < zs.length
                · have hlt' : k < ns.length := by have := HNL.out; omega
                  obtain ⟨b, off, rfl, hbb, hc⟩ := (hA.below hbel).at_ hlt
                  obtain ⟨hzn, hnb⟩ := HNS.out k hlt hlt'
                  rw [hzn] at hc
                  clear hzn
                  have HN := Lib.hid (Num_any b1 _ 0 wr hr (nums_size ns k (textsB ts) HZ60.out HTL.out))
                  rw [step_nums ns k hlt' hnb] at HN
                  generalize ns[k] = n at *
                  clear hnb hr
                  have hkz : (k : Int) < (zs.length : Int) := by omega
                  go_wp2_with fail
                  refine HN.out.mono ?_
                  rintro e w2 ⟨rfl, hr2, hT⟩
                  have hq2 := hT.other (c := b1 + 1) (by omega) hq
                  have hB2 := hbel.trans (hT.below hge)
                  clear hT hbel hq HN
                  go_wp2
                  go_roundw
                  case rel => exact ⟨k + 1, by omega, by go_num, hr2, hq2, hB2⟩
                  case measure => simp [intOf]; omega
                · obtain rfl : k = zs.length := by omega
                  have hr0 : RdAt wr b1 (bs (textsB (ts.drop 0))) 0 := by
                    rw [List.drop_eq_nil_of_le (by have := HNL.out; omega)] at hr
                    simpa [numsB] using hr
                  clear hr
                  go_wp2
                  go_loopw [78] (fun i wr => ∃ k : Nat, k ≤ ts.length ∧ i = .int .i64 k ∧ RdAt wr b1 (bs (textsB (ts.drop k))) 0 ∧ RdAt wr (b1 + 1) bytes 0 ∧ Below w.heap.size w wr)
                    (fun i _ => ts.length - (intOf i).toNat)
                  case atStart => exact ⟨0, by omega, rfl, hr0, hq, hbel⟩
                  case round =>
                    obtain ⟨k, hk, rfl, hr, hq, hbel⟩ := hrel
                    by_cases hlt : k < ts.length
                    · obtain ⟨b, off, rfl, hbb, hc⟩ := (hB.below hbel).at_ hlt
                      have HN := Lib.hid (Text_any b1 _ 0 wr hr (texts_size ts k htl HS3.out))
                      rw [step_texts ts k hlt (HS3.out _ (List.getElem_mem hlt))] at HN
                      generalize ts[k] = t at *
                      clear hr
                      have hkz : (k : Int) < (ts.length : Int) := by omega
                      go_wp2_with fail
                      refine HN.out.mono ?_
                      rintro e w2 ⟨rfl, hr2, hT⟩
                      have hq2 := hT.other (c := b1 + 1) (by omega) hq
                      have hB2 := hbel.trans (hT.below hge)
                      clear hT hbel hq HN
                      go_wp2
                      go_roundw
                      case rel => exact ⟨k + 1, by omega, by go_num, hr2, hq2, hB2⟩
                      case measure => simp [intOf]; omega
                    · obtain rfl : k = ts.length := by omega
                      have hr0 : RdAt wr b1 (bs []) 0 := by
                        rw [List.drop_length] at hr
                        exact hr
                      clear hr
                      have HW := Lib.hid (Why_any b1 (bs []) 0 wr hr0)
                      have hLeft := Left_any b1 (bs []) 0 wr hr0
                      rw [bs_size] at hLeft
                      have HL := Lib.hid hLeft
                      clear hLeft hr0
                      go_wp2_with fail
                      refine HW.out.mono ?_
                      rintro e w' ⟨rfl, rfl⟩
                      go_wp2_with fail
                      refine HL.out.mono ?_
                      rintro e w' ⟨rfl, rfl⟩
                      clear HW HL
                      have hnum := Num_any (b1 + 1) bytes 0 wr hq hbs
                      rcases last_num bytes with ⟨y, hy, hst⟩ | ⟨m, k, hm, hst, hks, hkl, hex⟩
                      · rw [hst] at hnum
                        have HN := Lib.hid hnum
                        have hyb : ((y : Int) != 0) = true := by simp [hy]
                        clear hnum hst hy
                        go_wp2_with fail
                        refine HN.out.mono ?_
                        rintro e w2 ⟨rfl, hq2, hT⟩
                        have hB2 := hbel.trans (hT.below (by omega))
                        clear hT hbel hq HN
                        go_wp2_with fail
                        refine (Why_any (b1 + 1) bytes y _ hq2).mono ?_
                        rintro e w' ⟨rfl, rfl⟩
                        go_wp2_with fail
                        refine (Left_any (b1 + 1) bytes y _ hq2).mono ?_
                        rintro e w' ⟨rfl, rfl⟩
                        go_wp2
                        go_ret
                        exact ⟨rfl, hB2⟩
                      · rw [hst] at hnum
                        have HN := Lib.hid hnum
                        have HM := Lib.hid (fun w => litNum_any m w hm)
                        have hsz : (bytes.extract k bytes.size).size = bytes.size - k := by rw [ByteArray.size_extract]; omega
                        clear hnum hst hm
                        generalize bs (bytesN m) = t at *
                        generalize bytes.extract k bytes.size = rest at *
                        subst hks
                        have hle : ((rest.size : Int) == (bytes.size : Int) - (t.size : Int)) = true := by simp; omega
                        have hti : (t.size : Int) ≤ (bytes.size : Int) := by omega
                        have ht0 : (0 : Int) ≤ (t.size : Int) := by omega
                        have hbi : (bytes.size : Int) ≤ 9223372036854775807 := by unfold maxLen at hbs; omega
                        clear hsz
                        go_wp2_with fail
                        refine HN.out.mono ?_
                        rintro e w2 ⟨rfl, hq2, hT⟩
                        have hB2 := hbel.trans (hT.below (by omega))
                        clear hT hbel hq HN
                        go_wp2_with fail
                        refine (Why_any (b1 + 1) rest 0 _ hq2).mono ?_
                        rintro e w' ⟨rfl, rfl⟩
                        go_wp2_with fail
                        refine (HM.out _).mono ?_
                        rintro e w3 ⟨rfl, hb3⟩
                        have hq3 := hq2.below hb3 hq2.block
                        have hB3 := hB2.trans (hb3.mono hB2.size)
                        clear hb3 hB2 hq2 HM
                        go_wp2_with fail
                        refine (Left_any (b1 + 1) rest 0 _ hq3).mono ?_
                        rintro e w' ⟨rfl, rfl⟩
                        go_wp2
                        go_ret
                        exact ⟨rfl, hB3⟩

end Go.Proofs.Ytbedlaggmlckdaa
