/- One at most (IdmapOne), walked. -/
import Derived.Test.YteiknnpoaijobaaImLives
import Derived.Test.YteiknnpoaijobaaImOneP
import Derived.Test.YteiknnpoaijobaaLawDeed
namespace Go.Proofs.Yteiknnpoaijobaa
open Go.RowKit

set_option maxRecDepth 100000 in
set_option maxHeartbeats 16000000 in
theorem IdmapOne_walk (shards : Int) (A : Option Addr) (zs : List DeedI) (c : Nat) (o : Int) (w : World) (hA : RdDI w w.heap.size A zs) (hI : ∀ x ∈ zs, IsU x.2.1) (hl : zs.length ≤ 9223372036854775807) (_ : zs.length ≤ c) (_ : A = none → c = 0) (hO : IsU o) :
    Calls Try.prog 6 #[.int .i64 shards, .slice A zs.length c, .int .u64 o] w fun e w' => e = .returned (.bool true) ∧ Below w.heap.size w w' := by
  by_cases hlong : 100 < zs.length
  · have hi : (100 : Int) < (zs.length : Int) := by omega
    clear hA hI
    go_enter Try.func6, Try.ntmps6
    go_wp2_with fail
    refine (im_lives_any _).mono ?_
    rintro e w1 ⟨rfl, hb1⟩
    go_wp2
    go_ret
    exact ⟨rfl, hb1⟩
  have hi : ¬ (100 : Int) < (zs.length : Int) := by omega
  by_cases hbad : shards < 1 ∨ 64 < shards
  · have HN := Lib.hid (fun W => imNew_not shards hbad W)
    have hlo : 1 ≤ shards → 64 < shards := by omega
    clear hA hI
    go_enter Try.func6, Try.ntmps6
    go_wp2_with fail
    refine (im_lives_any _).mono ?_
    rintro e w1 ⟨rfl, hb1⟩
    have HB1 := Lib.hid hb1
    clear hb1
    go_wp2_with fail
    refine (HN.out _).mono ?_
    rintro e w2 ⟨rfl, rfl⟩
    rcases Int.lt_or_le shards 1 with h1 | h1
    · go_wp2
      go_ret
      exact ⟨rfl, HB1.out⟩
    · have h2 : ¬ shards < 1 := by omega
      have h3 := hlo h1
      go_wp2
      go_ret
      exact ⟨rfl, HB1.out⟩
  obtain ⟨N, rfl⟩ : ∃ N : Nat, shards = (N : Int) := ⟨shards.toNat, by omega⟩
  have hN1 : 1 ≤ N := by omega
  have hN2 : N ≤ 64 := by omega
  have HI := Lib.hid hI
  clear hI hbad
  go_enter Try.func6, Try.ntmps6
  go_wp2_with fail
  refine (im_lives_any _).mono ?_
  rintro e w1 ⟨rfl, hb1⟩
  have HB1 := Lib.hid hb1
  have HA := Lib.hid (hA.below hb1)
  clear hb1 hA
  go_wp2_with fail
  refine (imNew_ij N hN1 hN2 _).mono ?_
  rintro e w2 ⟨B, bs, bm, rfl, h2⟩
  have H2 : Hid (IC w1 0 B bs bm N (imNew N) [] w2) := Lib.hid ⟨h2.sub (fun _ ⟨p, hp, _⟩ => by cases hp), fun p hp => by cases hp⟩
  clear h2
  go_wp2
  go_loopw [61] (fun i wr => ∃ (k : Nat) (x : IX), k ≤ zs.length ∧ i = .int .i64 k ∧ IC w1 k B bs bm N x [] wr) (fun i _ => zs.length - (intOf i).toNat)
  case atStart => exact ⟨0, imNew N, Nat.zero_le _, rfl, H2.out⟩
  case round =>
    obtain ⟨k, x, hk, rfl, hE⟩ := hrel
    by_cases hlt : k < zs.length
    · obtain ⟨d, hd⟩ : ∃ d, zs[k]? = some d := ⟨_, List.getElem?_eq_getElem hlt⟩
      obtain ⟨b, off, rfl, hbb, q0, q1, q2, q3⟩ := HA.out k d hd
      have hU := HI.out d (List.mem_of_getElem? hd)
      obtain ⟨kd, id, s, g⟩ := d
      simp only at hU q0 q1 q2 q3
      have hbw : b < w1.heap.size := Nat.lt_of_lt_of_le hbb HB1.out.size
      have hbe := hE.1.bel
      have r0 := (hbe.cell (p := ⟨b, off + k * 4, none⟩) hbw).trans q0
      have r1 := (hbe.cell (p := ⟨b, off + k * 4 + 1, none⟩) hbw).trans q1
      have r2 := (hbe.cell (p := ⟨b, off + k * 4 + 2, none⟩) hbw).trans q2
      have r3 := (hbe.cell (p := ⟨b, off + k * 4 + 3, none⟩) hbw).trans q3
      clear q0 q1 q2 q3 hd hbe
      have hkl : (k : Int) < (zs.length : Int) := by omega
      have hk0 : (0 : Int) ≤ (k : Int) := by omega
      have hk100 : k < 100 := by omega
      have HU := Lib.hid hU
      have HO := Lib.hid hO
      have HD := Lib.hid (hE.box [.int .i64 kd, .int .u64 id, .int .i64 s, .int .i64 g] 61)
      clear hE hU
      generalize hbD : wr.heap.size = bD at HD
      have HG := Lib.hid (imGet_ij HD.out.1 HU.out)
      go_wp2_with fail
      refine HG.out.mono ?_
      rintro e w3 ⟨rfl, h1, hk2⟩
      have H3 := Lib.hid ((HD.out.later hk2).box [.int .i64 (imGet x id).1, .int .i64 (imGet x id).2] 36)
      clear h1 hk2 HG HD
      have HG := Lib.hid (imGet_ij H3.out.1 HO.out)
      go_wp2_with fail
      refine HG.out.mono ?_
      rintro e w4 ⟨rfl, h1, hk2⟩
      have H4 := Lib.hid ((H3.out.later hk2).box [.int .i64 (imGet x o).1, .int .i64 (imGet x o).2] 36)
      clear h1 hk2 HG H3
      have HLn := Lib.hid (imLen_ij H4.out.1 (by omega))
      have HV := Lib.hid (imVer_ij H4.out.1)
      go_wp2_with fail
      refine HLn.out.mono ?_
      rintro e w5 ⟨rfl, rfl⟩
      go_wp2_with fail
      refine HV.out.mono ?_
      rintro e w5 ⟨rfl, rfl⟩
      clear HLn HV
      have hver := H4.out.1.fit.ver
      have hvx : (x.v : Int) ≤ 100 := by omega
      have hvx0 : (0 : Int) ≤ (x.v : Int) := by omega
      have hvne : ¬ (x.v : Int) = (x.v : Int) + 1 := by omega
      by_cases k0 : kd = 0
      · subst k0
        cases hh : imHas x id with
        | false =>
          as_aux_lemma =>
            have HP := Lib.hid (imPut_ij H4.out.1 (by omega) HU.out s g)
            obtain ⟨HT, p1, p2, p3⟩ := put_not hh (s, g)
            rw [hh] at HP
            generalize imPut x id (s, g) = y at *
            have c0 := H4.out.2 (bD, [.int .i64 0, .int .u64 id, .int .i64 s, .int .i64 g]) (by simp) 0 _ rfl
            have c1 := H4.out.2 (bD, [.int .i64 0, .int .u64 id, .int .i64 s, .int .i64 g]) (by simp) 1 _ rfl
            have c2 := H4.out.2 (bD, [.int .i64 0, .int .u64 id, .int .i64 s, .int .i64 g]) (by simp) 2 _ rfl
            have c3 := H4.out.2 (bD, [.int .i64 0, .int .u64 id, .int .i64 s, .int .i64 g]) (by simp) 3 _ rfl
            go_wp2_with fail
            refine HP.out.mono ?_
            rintro e w5 ⟨rfl, h1, hk2⟩
            have H5 := Lib.hid (H4.out.keep h1 hk2)
            clear h1 hk2 HP c0 c1 c2 c3 H4
            have c0 := H5.out.2 (bD, [.int .i64 0, .int .u64 id, .int .i64 s, .int .i64 g]) (by simp) 0 _ rfl
            have c1 := H5.out.2 (bD, [.int .i64 0, .int .u64 id, .int .i64 s, .int .i64 g]) (by simp) 1 _ rfl
            have c2 := H5.out.2 (bD, [.int .i64 0, .int .u64 id, .int .i64 s, .int .i64 g]) (by simp) 2 _ rfl
            have c3 := H5.out.2 (bD, [.int .i64 0, .int .u64 id, .int .i64 s, .int .i64 g]) (by simp) 3 _ rfl
            have HG := Lib.hid (imGet_ij H5.out.1 HU.out)
            rw [p1, p2] at HG
            go_wp2_with fail
            refine HG.out.mono ?_
            rintro e w6 ⟨rfl, h1, hk2⟩
            have H6 := Lib.hid ((H5.out.later hk2).box [.int .i64 s, .int .i64 g] 36)
            clear h1 hk2 HG c0 c1 c2 c3 H5
            have c0 := H6.out.2 (bD, [.int .i64 0, .int .u64 id, .int .i64 s, .int .i64 g]) (by simp) 0 _ rfl
            have c1 := H6.out.2 (bD, [.int .i64 0, .int .u64 id, .int .i64 s, .int .i64 g]) (by simp) 1 _ rfl
            have c2 := H6.out.2 (bD, [.int .i64 0, .int .u64 id, .int .i64 s, .int .i64 g]) (by simp) 2 _ rfl
            have c3 := H6.out.2 (bD, [.int .i64 0, .int .u64 id, .int .i64 s, .int .i64 g]) (by simp) 3 _ rfl
            have d0 := H6.out.2 (w6.heap.size, [.int .i64 s, .int .i64 g]) (by simp) 0 _ rfl
            have d1 := H6.out.2 (w6.heap.size, [.int .i64 s, .int .i64 g]) (by simp) 1 _ rfl
            have f0 := H6.out.2 (w3.heap.size, [.int .i64 (imGet x id).1, .int .i64 (imGet x id).2]) (by simp) 0 _ rfl
            have f1 := H6.out.2 (w3.heap.size, [.int .i64 (imGet x id).1, .int .i64 (imGet x id).2]) (by simp) 1 _ rfl
            have HLn := Lib.hid (imLen_ij H6.out.1 (by omega))
            have hly : ¬ ((y.L.length : Nat) : Int) < ((x.L.length : Nat) : Int) := by omega
            go_wp2_with fail
            refine HLn.out.mono ?_
            rintro e w7 ⟨rfl, rfl⟩
            clear HLn c0 c1 c2 c3 d0 d1 f0 f1
            clear p1 p2 p3
            have hvy : (y.v : Int) = (x.v : Int) + 1 := by have := HT.ver; simp only [Bool.toNat_true] at this; omega
            rcases Decidable.em (o = id) with ho | ho
            · have ho2 := ho.symm
              clear ho
              subst ho2
              have HGO := Lib.hid (imGet_ij H6.out.1 HO.out)
              have c0 := H6.out.2 (bD, [.int .i64 0, .int .u64 id, .int .i64 s, .int .i64 g]) (by simp) 0 _ rfl
              have c1 := H6.out.2 (bD, [.int .i64 0, .int .u64 id, .int .i64 s, .int .i64 g]) (by simp) 1 _ rfl
              have c2 := H6.out.2 (bD, [.int .i64 0, .int .u64 id, .int .i64 s, .int .i64 g]) (by simp) 2 _ rfl
              have c3 := H6.out.2 (bD, [.int .i64 0, .int .u64 id, .int .i64 s, .int .i64 g]) (by simp) 3 _ rfl
              go_wp2_with fail
              refine HGO.out.mono ?_
              rintro e w8 ⟨rfl, h1, hk2⟩
              have H8 := Lib.hid ((H6.out.later hk2).box [.int .i64 (imGet y id).1, .int .i64 (imGet y id).2] 36)
              clear h1 hk2 HGO c0 c1 c2 c3
              have c0 := H8.out.2 (bD, [.int .i64 0, .int .u64 id, .int .i64 s, .int .i64 g]) (by simp) 0 _ rfl
              have c1 := H8.out.2 (bD, [.int .i64 0, .int .u64 id, .int .i64 s, .int .i64 g]) (by simp) 1 _ rfl
              have c2 := H8.out.2 (bD, [.int .i64 0, .int .u64 id, .int .i64 s, .int .i64 g]) (by simp) 2 _ rfl
              have c3 := H8.out.2 (bD, [.int .i64 0, .int .u64 id, .int .i64 s, .int .i64 g]) (by simp) 3 _ rfl
              have d0 := H8.out.2 (w8.heap.size, [.int .i64 (imGet y id).1, .int .i64 (imGet y id).2]) (by simp) 0 _ rfl
              have d1 := H8.out.2 (w8.heap.size, [.int .i64 (imGet y id).1, .int .i64 (imGet y id).2]) (by simp) 1 _ rfl
              have f0 := H8.out.2 (w4.heap.size, [.int .i64 (imGet x id).1, .int .i64 (imGet x id).2]) (by simp) 0 _ rfl
              have f1 := H8.out.2 (w4.heap.size, [.int .i64 (imGet x id).1, .int .i64 (imGet x id).2]) (by simp) 1 _ rfl
              have HV := Lib.hid (imVer_ij H8.out.1)
              rw [hvy] at HV
              have HLn := Lib.hid (imLen_ij H8.out.1 (by omega))
              have HS := Lib.hid (imShard_ij H8.out.1 HU.out)
              go_wp2_with fail
              refine HV.out.mono ?_
              rintro e w9 ⟨rfl, rfl⟩
              go_wp2_with fail
              refine HS.out.mono ?_
              rintro e w9 ⟨rfl, hdr⟩
              have H9 := Lib.hid ((H8.out.later (hdr.below _)).sub (L' := []) (fun p hp => by cases hp))
              clear HV HLn HS hdr H8 c0 c1 c2 c3 d0 d1 f0 f1
              have hsk := shI_lt hN1 id
              generalize shI N id = sk at *
              have hsk0 : decide ((sk : Int) < 0) = false := by simp
              have hsk1 : decide ((N : Int) ≤ (sk : Int)) = false := by simp; omega
              have HLn := Lib.hid (imLen_ij H9.out.1 (by omega))
              have HSum : Hid (sumI N y.L N = y.L.length) := Lib.hid (sumI_all hN1 _)
              have hlen := H9.out.1.fit.len
              go_wp2
              go_loop [27, 208] (fun a i => ∃ j sj : Nat, j ≤ N ∧ i = .int .i64 (j : Int) ∧ a = .int .i64 (sj : Int) ∧ Hid (sumI N y.L j = sj)) (fun _ i => N - (intOf i).toNat)
              case atStart => exact ⟨0, 0, Nat.zero_le _, rfl, rfl, Lib.hid rfl⟩
              case round =>
                obtain ⟨j, sj, hj, rfl, rfl, HJ⟩ := hrel
                by_cases hjn : j < N
                · have hjn1 : (j : Int) < (N : Int) := by omega
                  have HZ := Lib.hid (imSize_ij H9.out.1 hjn)
                  have hs1 := sumI_le (n := N) y.L (j + 1)
                  simp only [sumI] at hs1
                  rw [HJ.out] at hs1
                  have HSn : Hid (sumI N y.L (j + 1) = sj + cntI N y.L j) := Lib.hid (by simp only [sumI]; rw [HJ.out])
                  generalize cntI N y.L j = cn at *
                  go_wp2_with fail
                  refine HZ.out.mono ?_
                  rintro e w10 ⟨rfl, rfl⟩
                  go_wp2
                  go_round
                  case rel => exact ⟨j + 1, sj + cn, by omega, by go_num, by go_num, HSn⟩
                  case measure => simp [intOf]; omega
                · have hjn1 : ¬ (j : Int) < (N : Int) := by omega
                  have hsl : sj = y.L.length := by
                    have h5 := HJ.out
                    rw [show j = N by omega] at h5
                    exact h5.symm.trans HSum.out
                  rw [← hsl] at HLn
                  clear hsl HSum HJ
                  go_wp2_with fail
                  refine HLn.out.mono ?_
                  rintro e w10 ⟨rfl, rfl⟩
                  go_wp2
                  go_roundw
                  case rel => exact ⟨k + 1, y, by omega, by go_num, H9.out⟩
                  case measure => simp [intOf]; omega
            · have hoi := ho
              have HGO := Lib.hid (imGet_ij H6.out.1 HO.out)
              rw [(HT.oth o ho).1, (HT.oth o ho).2] at HGO
              have c0 := H6.out.2 (bD, [.int .i64 0, .int .u64 id, .int .i64 s, .int .i64 g]) (by simp) 0 _ rfl
              have c1 := H6.out.2 (bD, [.int .i64 0, .int .u64 id, .int .i64 s, .int .i64 g]) (by simp) 1 _ rfl
              have c2 := H6.out.2 (bD, [.int .i64 0, .int .u64 id, .int .i64 s, .int .i64 g]) (by simp) 2 _ rfl
              have c3 := H6.out.2 (bD, [.int .i64 0, .int .u64 id, .int .i64 s, .int .i64 g]) (by simp) 3 _ rfl
              go_wp2_with fail
              refine HGO.out.mono ?_
              rintro e w8 ⟨rfl, h1, hk2⟩
              have H8 := Lib.hid ((H6.out.later hk2).box [.int .i64 (imGet x o).1, .int .i64 (imGet x o).2] 36)
              clear h1 hk2 HGO c0 c1 c2 c3
              have c0 := H8.out.2 (bD, [.int .i64 0, .int .u64 id, .int .i64 s, .int .i64 g]) (by simp) 0 _ rfl
              have c1 := H8.out.2 (bD, [.int .i64 0, .int .u64 id, .int .i64 s, .int .i64 g]) (by simp) 1 _ rfl
              have c2 := H8.out.2 (bD, [.int .i64 0, .int .u64 id, .int .i64 s, .int .i64 g]) (by simp) 2 _ rfl
              have c3 := H8.out.2 (bD, [.int .i64 0, .int .u64 id, .int .i64 s, .int .i64 g]) (by simp) 3 _ rfl
              have d0 := H8.out.2 (w8.heap.size, [.int .i64 (imGet x o).1, .int .i64 (imGet x o).2]) (by simp) 0 _ rfl
              have d1 := H8.out.2 (w8.heap.size, [.int .i64 (imGet x o).1, .int .i64 (imGet x o).2]) (by simp) 1 _ rfl
              have f0 := H8.out.2 (w4.heap.size, [.int .i64 (imGet x o).1, .int .i64 (imGet x o).2]) (by simp) 0 _ rfl
              have f1 := H8.out.2 (w4.heap.size, [.int .i64 (imGet x o).1, .int .i64 (imGet x o).2]) (by simp) 1 _ rfl
              have HV := Lib.hid (imVer_ij H8.out.1)
              rw [hvy] at HV
              have HLn := Lib.hid (imLen_ij H8.out.1 (by omega))
              have HS := Lib.hid (imShard_ij H8.out.1 HU.out)
              go_wp2_with fail
              refine HV.out.mono ?_
              rintro e w9 ⟨rfl, rfl⟩
              go_wp2_with fail
              refine HS.out.mono ?_
              rintro e w9 ⟨rfl, hdr⟩
              have H9 := Lib.hid ((H8.out.later (hdr.below _)).sub (L' := []) (fun p hp => by cases hp))
              clear HV HLn HS hdr H8 c0 c1 c2 c3 d0 d1 f0 f1
              have hsk := shI_lt hN1 id
              generalize shI N id = sk at *
              have hsk0 : decide ((sk : Int) < 0) = false := by simp
              have hsk1 : decide ((N : Int) ≤ (sk : Int)) = false := by simp; omega
              have HLn := Lib.hid (imLen_ij H9.out.1 (by omega))
              have HSum : Hid (sumI N y.L N = y.L.length) := Lib.hid (sumI_all hN1 _)
              have hlen := H9.out.1.fit.len
              go_wp2
              go_loop [27, 208] (fun a i => ∃ j sj : Nat, j ≤ N ∧ i = .int .i64 (j : Int) ∧ a = .int .i64 (sj : Int) ∧ Hid (sumI N y.L j = sj)) (fun _ i => N - (intOf i).toNat)
              case atStart => exact ⟨0, 0, Nat.zero_le _, rfl, rfl, Lib.hid rfl⟩
              case round =>
                obtain ⟨j, sj, hj, rfl, rfl, HJ⟩ := hrel
                by_cases hjn : j < N
                · have hjn1 : (j : Int) < (N : Int) := by omega
                  have HZ := Lib.hid (imSize_ij H9.out.1 hjn)
                  have hs1 := sumI_le (n := N) y.L (j + 1)
                  simp only [sumI] at hs1
                  rw [HJ.out] at hs1
                  have HSn : Hid (sumI N y.L (j + 1) = sj + cntI N y.L j) := Lib.hid (by simp only [sumI]; rw [HJ.out])
                  generalize cntI N y.L j = cn at *
                  go_wp2_with fail
                  refine HZ.out.mono ?_
                  rintro e w10 ⟨rfl, rfl⟩
                  go_wp2
                  go_round
                  case rel => exact ⟨j + 1, sj + cn, by omega, by go_num, by go_num, HSn⟩
                  case measure => simp [intOf]; omega
                · have hjn1 : ¬ (j : Int) < (N : Int) := by omega
                  have hsl : sj = y.L.length := by
                    have h5 := HJ.out
                    rw [show j = N by omega] at h5
                    exact h5.symm.trans HSum.out
                  rw [← hsl] at HLn
                  clear hsl HSum HJ
                  go_wp2_with fail
                  refine HLn.out.mono ?_
                  rintro e w10 ⟨rfl, rfl⟩
                  go_wp2
                  go_roundw
                  case rel => exact ⟨k + 1, y, by omega, by go_num, H9.out⟩
                  case measure => simp [intOf]; omega
        | true =>
          as_aux_lemma =>
            have HP := Lib.hid (imPut_ij H4.out.1 (by omega) HU.out s g)
            rw [put_had hh, hh] at HP
            have c0 := H4.out.2 (bD, [.int .i64 0, .int .u64 id, .int .i64 s, .int .i64 g]) (by simp) 0 _ rfl
            have c1 := H4.out.2 (bD, [.int .i64 0, .int .u64 id, .int .i64 s, .int .i64 g]) (by simp) 1 _ rfl
            have c2 := H4.out.2 (bD, [.int .i64 0, .int .u64 id, .int .i64 s, .int .i64 g]) (by simp) 2 _ rfl
            have c3 := H4.out.2 (bD, [.int .i64 0, .int .u64 id, .int .i64 s, .int .i64 g]) (by simp) 3 _ rfl
            go_wp2_with fail
            refine HP.out.mono ?_
            rintro e w5 ⟨rfl, h1, hk2⟩
            have H5 := Lib.hid (H4.out.keep h1 hk2)
            clear h1 hk2 HP c0 c1 c2 c3 H4
            have c0 := H5.out.2 (bD, [.int .i64 0, .int .u64 id, .int .i64 s, .int .i64 g]) (by simp) 0 _ rfl
            have c1 := H5.out.2 (bD, [.int .i64 0, .int .u64 id, .int .i64 s, .int .i64 g]) (by simp) 1 _ rfl
            have c2 := H5.out.2 (bD, [.int .i64 0, .int .u64 id, .int .i64 s, .int .i64 g]) (by simp) 2 _ rfl
            have c3 := H5.out.2 (bD, [.int .i64 0, .int .u64 id, .int .i64 s, .int .i64 g]) (by simp) 3 _ rfl
            have HG := Lib.hid (imGet_ij H5.out.1 HU.out)
            rw [hh] at HG
            go_wp2_with fail
            refine HG.out.mono ?_
            rintro e w6 ⟨rfl, h1, hk2⟩
            have H6 := Lib.hid ((H5.out.later hk2).box [.int .i64 (imGet x id).1, .int .i64 (imGet x id).2] 36)
            clear h1 hk2 HG c0 c1 c2 c3 H5
            have c0 := H6.out.2 (bD, [.int .i64 0, .int .u64 id, .int .i64 s, .int .i64 g]) (by simp) 0 _ rfl
            have c1 := H6.out.2 (bD, [.int .i64 0, .int .u64 id, .int .i64 s, .int .i64 g]) (by simp) 1 _ rfl
            have c2 := H6.out.2 (bD, [.int .i64 0, .int .u64 id, .int .i64 s, .int .i64 g]) (by simp) 2 _ rfl
            have c3 := H6.out.2 (bD, [.int .i64 0, .int .u64 id, .int .i64 s, .int .i64 g]) (by simp) 3 _ rfl
            have d0 := H6.out.2 (w6.heap.size, [.int .i64 (imGet x id).1, .int .i64 (imGet x id).2]) (by simp) 0 _ rfl
            have d1 := H6.out.2 (w6.heap.size, [.int .i64 (imGet x id).1, .int .i64 (imGet x id).2]) (by simp) 1 _ rfl
            have f0 := H6.out.2 (w3.heap.size, [.int .i64 (imGet x id).1, .int .i64 (imGet x id).2]) (by simp) 0 _ rfl
            have f1 := H6.out.2 (w3.heap.size, [.int .i64 (imGet x id).1, .int .i64 (imGet x id).2]) (by simp) 1 _ rfl
            have HLn := Lib.hid (imLen_ij H6.out.1 (by omega))
            have hly : ¬ ((x.L.length : Nat) : Int) < ((x.L.length : Nat) : Int) := by omega
            go_wp2_with fail
            refine HLn.out.mono ?_
            rintro e w7 ⟨rfl, rfl⟩
            clear HLn c0 c1 c2 c3 d0 d1 f0 f1
            rcases Decidable.em (o = id) with ho | ho
            · have ho2 := ho.symm
              clear ho
              subst ho2
              have HGO := Lib.hid (imGet_ij H6.out.1 HO.out)
              have c0 := H6.out.2 (bD, [.int .i64 0, .int .u64 id, .int .i64 s, .int .i64 g]) (by simp) 0 _ rfl
              have c1 := H6.out.2 (bD, [.int .i64 0, .int .u64 id, .int .i64 s, .int .i64 g]) (by simp) 1 _ rfl
              have c2 := H6.out.2 (bD, [.int .i64 0, .int .u64 id, .int .i64 s, .int .i64 g]) (by simp) 2 _ rfl
              have c3 := H6.out.2 (bD, [.int .i64 0, .int .u64 id, .int .i64 s, .int .i64 g]) (by simp) 3 _ rfl
              go_wp2_with fail
              refine HGO.out.mono ?_
              rintro e w8 ⟨rfl, h1, hk2⟩
              have H8 := Lib.hid ((H6.out.later hk2).box [.int .i64 (imGet x id).1, .int .i64 (imGet x id).2] 36)
              clear h1 hk2 HGO c0 c1 c2 c3
              have c0 := H8.out.2 (bD, [.int .i64 0, .int .u64 id, .int .i64 s, .int .i64 g]) (by simp) 0 _ rfl
              have c1 := H8.out.2 (bD, [.int .i64 0, .int .u64 id, .int .i64 s, .int .i64 g]) (by simp) 1 _ rfl
              have c2 := H8.out.2 (bD, [.int .i64 0, .int .u64 id, .int .i64 s, .int .i64 g]) (by simp) 2 _ rfl
              have c3 := H8.out.2 (bD, [.int .i64 0, .int .u64 id, .int .i64 s, .int .i64 g]) (by simp) 3 _ rfl
              have d0 := H8.out.2 (w8.heap.size, [.int .i64 (imGet x id).1, .int .i64 (imGet x id).2]) (by simp) 0 _ rfl
              have d1 := H8.out.2 (w8.heap.size, [.int .i64 (imGet x id).1, .int .i64 (imGet x id).2]) (by simp) 1 _ rfl
              have f0 := H8.out.2 (w4.heap.size, [.int .i64 (imGet x id).1, .int .i64 (imGet x id).2]) (by simp) 0 _ rfl
              have f1 := H8.out.2 (w4.heap.size, [.int .i64 (imGet x id).1, .int .i64 (imGet x id).2]) (by simp) 1 _ rfl
              have HV := Lib.hid (imVer_ij H8.out.1)
              have HLn := Lib.hid (imLen_ij H8.out.1 (by omega))
              have HS := Lib.hid (imShard_ij H8.out.1 HU.out)
              go_wp2_with fail
              refine HV.out.mono ?_
              rintro e w9 ⟨rfl, rfl⟩
              go_wp2_with fail
              refine HV.out.mono ?_
              rintro e w9 ⟨rfl, rfl⟩
              go_wp2_with fail
              refine HLn.out.mono ?_
              rintro e w9 ⟨rfl, rfl⟩
              go_wp2_with fail
              refine HS.out.mono ?_
              rintro e w9 ⟨rfl, hdr⟩
              have H9 := Lib.hid ((H8.out.later (hdr.below _)).sub (L' := []) (fun p hp => by cases hp))
              clear HV HLn HS hdr H8 c0 c1 c2 c3 d0 d1 f0 f1
              have hsk := shI_lt hN1 id
              generalize shI N id = sk at *
              have hsk0 : decide ((sk : Int) < 0) = false := by simp
              have hsk1 : decide ((N : Int) ≤ (sk : Int)) = false := by simp; omega
              have HLn := Lib.hid (imLen_ij H9.out.1 (by omega))
              have HSum : Hid (sumI N x.L N = x.L.length) := Lib.hid (sumI_all hN1 _)
              have hlen := H9.out.1.fit.len
              go_wp2
              go_loop [27, 208] (fun a i => ∃ j sj : Nat, j ≤ N ∧ i = .int .i64 (j : Int) ∧ a = .int .i64 (sj : Int) ∧ Hid (sumI N x.L j = sj)) (fun _ i => N - (intOf i).toNat)
              case atStart => exact ⟨0, 0, Nat.zero_le _, rfl, rfl, Lib.hid rfl⟩
              case round =>
                obtain ⟨j, sj, hj, rfl, rfl, HJ⟩ := hrel
                by_cases hjn : j < N
                · have hjn1 : (j : Int) < (N : Int) := by omega
                  have HZ := Lib.hid (imSize_ij H9.out.1 hjn)
                  have hs1 := sumI_le (n := N) x.L (j + 1)
                  simp only [sumI] at hs1
                  rw [HJ.out] at hs1
                  have HSn : Hid (sumI N x.L (j + 1) = sj + cntI N x.L j) := Lib.hid (by simp only [sumI]; rw [HJ.out])
                  generalize cntI N x.L j = cn at *
                  go_wp2_with fail
                  refine HZ.out.mono ?_
                  rintro e w10 ⟨rfl, rfl⟩
                  go_wp2
                  go_round
                  case rel => exact ⟨j + 1, sj + cn, by omega, by go_num, by go_num, HSn⟩
                  case measure => simp [intOf]; omega
                · have hjn1 : ¬ (j : Int) < (N : Int) := by omega
                  have hsl : sj = x.L.length := by
                    have h5 := HJ.out
                    rw [show j = N by omega] at h5
                    exact h5.symm.trans HSum.out
                  rw [← hsl] at HLn
                  clear hsl HSum HJ
                  go_wp2_with fail
                  refine HLn.out.mono ?_
                  rintro e w10 ⟨rfl, rfl⟩
                  go_wp2
                  go_roundw
                  case rel => exact ⟨k + 1, x, by omega, by go_num, H9.out⟩
                  case measure => simp [intOf]; omega
            · have hoi := ho
              have HGO := Lib.hid (imGet_ij H6.out.1 HO.out)
              have c0 := H6.out.2 (bD, [.int .i64 0, .int .u64 id, .int .i64 s, .int .i64 g]) (by simp) 0 _ rfl
              have c1 := H6.out.2 (bD, [.int .i64 0, .int .u64 id, .int .i64 s, .int .i64 g]) (by simp) 1 _ rfl
              have c2 := H6.out.2 (bD, [.int .i64 0, .int .u64 id, .int .i64 s, .int .i64 g]) (by simp) 2 _ rfl
              have c3 := H6.out.2 (bD, [.int .i64 0, .int .u64 id, .int .i64 s, .int .i64 g]) (by simp) 3 _ rfl
              go_wp2_with fail
              refine HGO.out.mono ?_
              rintro e w8 ⟨rfl, h1, hk2⟩
              have H8 := Lib.hid ((H6.out.later hk2).box [.int .i64 (imGet x o).1, .int .i64 (imGet x o).2] 36)
              clear h1 hk2 HGO c0 c1 c2 c3
              have c0 := H8.out.2 (bD, [.int .i64 0, .int .u64 id, .int .i64 s, .int .i64 g]) (by simp) 0 _ rfl
              have c1 := H8.out.2 (bD, [.int .i64 0, .int .u64 id, .int .i64 s, .int .i64 g]) (by simp) 1 _ rfl
              have c2 := H8.out.2 (bD, [.int .i64 0, .int .u64 id, .int .i64 s, .int .i64 g]) (by simp) 2 _ rfl
              have c3 := H8.out.2 (bD, [.int .i64 0, .int .u64 id, .int .i64 s, .int .i64 g]) (by simp) 3 _ rfl
              have d0 := H8.out.2 (w8.heap.size, [.int .i64 (imGet x o).1, .int .i64 (imGet x o).2]) (by simp) 0 _ rfl
              have d1 := H8.out.2 (w8.heap.size, [.int .i64 (imGet x o).1, .int .i64 (imGet x o).2]) (by simp) 1 _ rfl
              have f0 := H8.out.2 (w4.heap.size, [.int .i64 (imGet x o).1, .int .i64 (imGet x o).2]) (by simp) 0 _ rfl
              have f1 := H8.out.2 (w4.heap.size, [.int .i64 (imGet x o).1, .int .i64 (imGet x o).2]) (by simp) 1 _ rfl
              have HV := Lib.hid (imVer_ij H8.out.1)
              have HLn := Lib.hid (imLen_ij H8.out.1 (by omega))
              have HS := Lib.hid (imShard_ij H8.out.1 HU.out)
              go_wp2_with fail
              refine HV.out.mono ?_
              rintro e w9 ⟨rfl, rfl⟩
              go_wp2_with fail
              refine HV.out.mono ?_
              rintro e w9 ⟨rfl, rfl⟩
              go_wp2_with fail
              refine HLn.out.mono ?_
              rintro e w9 ⟨rfl, rfl⟩
              go_wp2_with fail
              refine HS.out.mono ?_
              rintro e w9 ⟨rfl, hdr⟩
              have H9 := Lib.hid ((H8.out.later (hdr.below _)).sub (L' := []) (fun p hp => by cases hp))
              clear HV HLn HS hdr H8 c0 c1 c2 c3 d0 d1 f0 f1
              have hsk := shI_lt hN1 id
              generalize shI N id = sk at *
              have hsk0 : decide ((sk : Int) < 0) = false := by simp
              have hsk1 : decide ((N : Int) ≤ (sk : Int)) = false := by simp; omega
              have HLn := Lib.hid (imLen_ij H9.out.1 (by omega))
              have HSum : Hid (sumI N x.L N = x.L.length) := Lib.hid (sumI_all hN1 _)
              have hlen := H9.out.1.fit.len
              go_wp2
              go_loop [27, 208] (fun a i => ∃ j sj : Nat, j ≤ N ∧ i = .int .i64 (j : Int) ∧ a = .int .i64 (sj : Int) ∧ Hid (sumI N x.L j = sj)) (fun _ i => N - (intOf i).toNat)
              case atStart => exact ⟨0, 0, Nat.zero_le _, rfl, rfl, Lib.hid rfl⟩
              case round =>
                obtain ⟨j, sj, hj, rfl, rfl, HJ⟩ := hrel
                by_cases hjn : j < N
                · have hjn1 : (j : Int) < (N : Int) := by omega
                  have HZ := Lib.hid (imSize_ij H9.out.1 hjn)
                  have hs1 := sumI_le (n := N) x.L (j + 1)
                  simp only [sumI] at hs1
                  rw [HJ.out] at hs1
                  have HSn : Hid (sumI N x.L (j + 1) = sj + cntI N x.L j) := Lib.hid (by simp only [sumI]; rw [HJ.out])
                  generalize cntI N x.L j = cn at *
                  go_wp2_with fail
                  refine HZ.out.mono ?_
                  rintro e w10 ⟨rfl, rfl⟩
                  go_wp2
                  go_round
                  case rel => exact ⟨j + 1, sj + cn, by omega, by go_num, by go_num, HSn⟩
                  case measure => simp [intOf]; omega
                · have hjn1 : ¬ (j : Int) < (N : Int) := by omega
                  have hsl : sj = x.L.length := by
                    have h5 := HJ.out
                    rw [show j = N by omega] at h5
                    exact h5.symm.trans HSum.out
                  rw [← hsl] at HLn
                  clear hsl HSum HJ
                  go_wp2_with fail
                  refine HLn.out.mono ?_
                  rintro e w10 ⟨rfl, rfl⟩
                  go_wp2
                  go_roundw
                  case rel => exact ⟨k + 1, x, by omega, by go_num, H9.out⟩
                  case measure => simp [intOf]; omega
      by_cases k1 : kd = 1
      · subst k1
        cases hh : imHas x id with
        | false =>
          as_aux_lemma =>
            have HP := Lib.hid (imDrop_ij H4.out.1 (by omega) HU.out)
            rw [drop_not hh, hh] at HP
            have c0 := H4.out.2 (bD, [.int .i64 1, .int .u64 id, .int .i64 s, .int .i64 g]) (by simp) 0 _ rfl
            have c1 := H4.out.2 (bD, [.int .i64 1, .int .u64 id, .int .i64 s, .int .i64 g]) (by simp) 1 _ rfl
            have c2 := H4.out.2 (bD, [.int .i64 1, .int .u64 id, .int .i64 s, .int .i64 g]) (by simp) 2 _ rfl
            have c3 := H4.out.2 (bD, [.int .i64 1, .int .u64 id, .int .i64 s, .int .i64 g]) (by simp) 3 _ rfl
            go_wp2_with fail
            refine HP.out.mono ?_
            rintro e w5 ⟨rfl, h1, hk2⟩
            have H5 := Lib.hid ((H4.out.keep h1 hk2).box [.int .i64 (imGet x id).1, .int .i64 (imGet x id).2] 36)
            clear h1 hk2 HP c0 c1 c2 c3 H4
            have c0 := H5.out.2 (bD, [.int .i64 1, .int .u64 id, .int .i64 s, .int .i64 g]) (by simp) 0 _ rfl
            have c1 := H5.out.2 (bD, [.int .i64 1, .int .u64 id, .int .i64 s, .int .i64 g]) (by simp) 1 _ rfl
            have c2 := H5.out.2 (bD, [.int .i64 1, .int .u64 id, .int .i64 s, .int .i64 g]) (by simp) 2 _ rfl
            have c3 := H5.out.2 (bD, [.int .i64 1, .int .u64 id, .int .i64 s, .int .i64 g]) (by simp) 3 _ rfl
            have HG := Lib.hid (imGet_ij H5.out.1 HU.out)
            rw [hh] at HG
            go_wp2_with fail
            refine HG.out.mono ?_
            rintro e w6 ⟨rfl, h1, hk2⟩
            have H6 := Lib.hid ((H5.out.later hk2).box [.int .i64 (imGet x id).1, .int .i64 (imGet x id).2] 36)
            clear h1 hk2 HG c0 c1 c2 c3 H5
            have c0 := H6.out.2 (bD, [.int .i64 1, .int .u64 id, .int .i64 s, .int .i64 g]) (by simp) 0 _ rfl
            have c1 := H6.out.2 (bD, [.int .i64 1, .int .u64 id, .int .i64 s, .int .i64 g]) (by simp) 1 _ rfl
            have c2 := H6.out.2 (bD, [.int .i64 1, .int .u64 id, .int .i64 s, .int .i64 g]) (by simp) 2 _ rfl
            have c3 := H6.out.2 (bD, [.int .i64 1, .int .u64 id, .int .i64 s, .int .i64 g]) (by simp) 3 _ rfl
            have d0 := H6.out.2 (w5.heap.size, [.int .i64 (imGet x id).1, .int .i64 (imGet x id).2]) (by simp) 0 _ rfl
            have d1 := H6.out.2 (w5.heap.size, [.int .i64 (imGet x id).1, .int .i64 (imGet x id).2]) (by simp) 1 _ rfl
            have f0 := H6.out.2 (w3.heap.size, [.int .i64 (imGet x id).1, .int .i64 (imGet x id).2]) (by simp) 0 _ rfl
            have f1 := H6.out.2 (w3.heap.size, [.int .i64 (imGet x id).1, .int .i64 (imGet x id).2]) (by simp) 1 _ rfl
            rcases Decidable.em (o = id) with ho | ho
            · have ho2 := ho.symm
              clear ho
              subst ho2
              have HGO := Lib.hid (imGet_ij H6.out.1 HO.out)
              have c0 := H6.out.2 (bD, [.int .i64 1, .int .u64 id, .int .i64 s, .int .i64 g]) (by simp) 0 _ rfl
              have c1 := H6.out.2 (bD, [.int .i64 1, .int .u64 id, .int .i64 s, .int .i64 g]) (by simp) 1 _ rfl
              have c2 := H6.out.2 (bD, [.int .i64 1, .int .u64 id, .int .i64 s, .int .i64 g]) (by simp) 2 _ rfl
              have c3 := H6.out.2 (bD, [.int .i64 1, .int .u64 id, .int .i64 s, .int .i64 g]) (by simp) 3 _ rfl
              go_wp2_with fail
              refine HGO.out.mono ?_
              rintro e w8 ⟨rfl, h1, hk2⟩
              have H8 := Lib.hid ((H6.out.later hk2).box [.int .i64 (imGet x id).1, .int .i64 (imGet x id).2] 36)
              clear h1 hk2 HGO c0 c1 c2 c3
              have c0 := H8.out.2 (bD, [.int .i64 1, .int .u64 id, .int .i64 s, .int .i64 g]) (by simp) 0 _ rfl
              have c1 := H8.out.2 (bD, [.int .i64 1, .int .u64 id, .int .i64 s, .int .i64 g]) (by simp) 1 _ rfl
              have c2 := H8.out.2 (bD, [.int .i64 1, .int .u64 id, .int .i64 s, .int .i64 g]) (by simp) 2 _ rfl
              have c3 := H8.out.2 (bD, [.int .i64 1, .int .u64 id, .int .i64 s, .int .i64 g]) (by simp) 3 _ rfl
              have d0 := H8.out.2 (w8.heap.size, [.int .i64 (imGet x id).1, .int .i64 (imGet x id).2]) (by simp) 0 _ rfl
              have d1 := H8.out.2 (w8.heap.size, [.int .i64 (imGet x id).1, .int .i64 (imGet x id).2]) (by simp) 1 _ rfl
              have f0 := H8.out.2 (w4.heap.size, [.int .i64 (imGet x id).1, .int .i64 (imGet x id).2]) (by simp) 0 _ rfl
              have f1 := H8.out.2 (w4.heap.size, [.int .i64 (imGet x id).1, .int .i64 (imGet x id).2]) (by simp) 1 _ rfl
              have HV := Lib.hid (imVer_ij H8.out.1)
              have HLn := Lib.hid (imLen_ij H8.out.1 (by omega))
              have HS := Lib.hid (imShard_ij H8.out.1 HU.out)
              go_wp2_with fail
              refine HV.out.mono ?_
              rintro e w9 ⟨rfl, rfl⟩
              go_wp2_with fail
              refine HV.out.mono ?_
              rintro e w9 ⟨rfl, rfl⟩
              go_wp2_with fail
              refine HLn.out.mono ?_
              rintro e w9 ⟨rfl, rfl⟩
              go_wp2_with fail
              refine HS.out.mono ?_
              rintro e w9 ⟨rfl, hdr⟩
              have H9 := Lib.hid ((H8.out.later (hdr.below _)).sub (L' := []) (fun p hp => by cases hp))
              clear HV HLn HS hdr H8 c0 c1 c2 c3 d0 d1 f0 f1
              have hsk := shI_lt hN1 id
              generalize shI N id = sk at *
              have hsk0 : decide ((sk : Int) < 0) = false := by simp
              have hsk1 : decide ((N : Int) ≤ (sk : Int)) = false := by simp; omega
              have HLn := Lib.hid (imLen_ij H9.out.1 (by omega))
              have HSum : Hid (sumI N x.L N = x.L.length) := Lib.hid (sumI_all hN1 _)
              have hlen := H9.out.1.fit.len
              go_wp2
              go_loop [27, 208] (fun a i => ∃ j sj : Nat, j ≤ N ∧ i = .int .i64 (j : Int) ∧ a = .int .i64 (sj : Int) ∧ Hid (sumI N x.L j = sj)) (fun _ i => N - (intOf i).toNat)
              case atStart => exact ⟨0, 0, Nat.zero_le _, rfl, rfl, Lib.hid rfl⟩
              case round =>
                obtain ⟨j, sj, hj, rfl, rfl, HJ⟩ := hrel
                by_cases hjn : j < N
                · have hjn1 : (j : Int) < (N : Int) := by omega
                  have HZ := Lib.hid (imSize_ij H9.out.1 hjn)
                  have hs1 := sumI_le (n := N) x.L (j + 1)
                  simp only [sumI] at hs1
                  rw [HJ.out] at hs1
                  have HSn : Hid (sumI N x.L (j + 1) = sj + cntI N x.L j) := Lib.hid (by simp only [sumI]; rw [HJ.out])
                  generalize cntI N x.L j = cn at *
                  go_wp2_with fail
                  refine HZ.out.mono ?_
                  rintro e w10 ⟨rfl, rfl⟩
                  go_wp2
                  go_round
                  case rel => exact ⟨j + 1, sj + cn, by omega, by go_num, by go_num, HSn⟩
                  case measure => simp [intOf]; omega
                · have hjn1 : ¬ (j : Int) < (N : Int) := by omega
                  have hsl : sj = x.L.length := by
                    have h5 := HJ.out
                    rw [show j = N by omega] at h5
                    exact h5.symm.trans HSum.out
                  rw [← hsl] at HLn
                  clear hsl HSum HJ
                  go_wp2_with fail
                  refine HLn.out.mono ?_
                  rintro e w10 ⟨rfl, rfl⟩
                  go_wp2
                  go_roundw
                  case rel => exact ⟨k + 1, x, by omega, by go_num, H9.out⟩
                  case measure => simp [intOf]; omega
            · have hoi := ho
              have HGO := Lib.hid (imGet_ij H6.out.1 HO.out)
              have c0 := H6.out.2 (bD, [.int .i64 1, .int .u64 id, .int .i64 s, .int .i64 g]) (by simp) 0 _ rfl
              have c1 := H6.out.2 (bD, [.int .i64 1, .int .u64 id, .int .i64 s, .int .i64 g]) (by simp) 1 _ rfl
              have c2 := H6.out.2 (bD, [.int .i64 1, .int .u64 id, .int .i64 s, .int .i64 g]) (by simp) 2 _ rfl
              have c3 := H6.out.2 (bD, [.int .i64 1, .int .u64 id, .int .i64 s, .int .i64 g]) (by simp) 3 _ rfl
              go_wp2_with fail
              refine HGO.out.mono ?_
              rintro e w8 ⟨rfl, h1, hk2⟩
              have H8 := Lib.hid ((H6.out.later hk2).box [.int .i64 (imGet x o).1, .int .i64 (imGet x o).2] 36)
              clear h1 hk2 HGO c0 c1 c2 c3
              have c0 := H8.out.2 (bD, [.int .i64 1, .int .u64 id, .int .i64 s, .int .i64 g]) (by simp) 0 _ rfl
              have c1 := H8.out.2 (bD, [.int .i64 1, .int .u64 id, .int .i64 s, .int .i64 g]) (by simp) 1 _ rfl
              have c2 := H8.out.2 (bD, [.int .i64 1, .int .u64 id, .int .i64 s, .int .i64 g]) (by simp) 2 _ rfl
              have c3 := H8.out.2 (bD, [.int .i64 1, .int .u64 id, .int .i64 s, .int .i64 g]) (by simp) 3 _ rfl
              have d0 := H8.out.2 (w8.heap.size, [.int .i64 (imGet x o).1, .int .i64 (imGet x o).2]) (by simp) 0 _ rfl
              have d1 := H8.out.2 (w8.heap.size, [.int .i64 (imGet x o).1, .int .i64 (imGet x o).2]) (by simp) 1 _ rfl
              have f0 := H8.out.2 (w4.heap.size, [.int .i64 (imGet x o).1, .int .i64 (imGet x o).2]) (by simp) 0 _ rfl
              have f1 := H8.out.2 (w4.heap.size, [.int .i64 (imGet x o).1, .int .i64 (imGet x o).2]) (by simp) 1 _ rfl
              have HV := Lib.hid (imVer_ij H8.out.1)
              have HLn := Lib.hid (imLen_ij H8.out.1 (by omega))
              have HS := Lib.hid (imShard_ij H8.out.1 HU.out)
              go_wp2_with fail
              refine HV.out.mono ?_
              rintro e w9 ⟨rfl, rfl⟩
              go_wp2_with fail
              refine HV.out.mono ?_
              rintro e w9 ⟨rfl, rfl⟩
              go_wp2_with fail
              refine HLn.out.mono ?_
              rintro e w9 ⟨rfl, rfl⟩
              go_wp2_with fail
              refine HS.out.mono ?_
              rintro e w9 ⟨rfl, hdr⟩
              have H9 := Lib.hid ((H8.out.later (hdr.below _)).sub (L' := []) (fun p hp => by cases hp))
              clear HV HLn HS hdr H8 c0 c1 c2 c3 d0 d1 f0 f1
              have hsk := shI_lt hN1 id
              generalize shI N id = sk at *
              have hsk0 : decide ((sk : Int) < 0) = false := by simp
              have hsk1 : decide ((N : Int) ≤ (sk : Int)) = false := by simp; omega
              have HLn := Lib.hid (imLen_ij H9.out.1 (by omega))
              have HSum : Hid (sumI N x.L N = x.L.length) := Lib.hid (sumI_all hN1 _)
              have hlen := H9.out.1.fit.len
              go_wp2
              go_loop [27, 208] (fun a i => ∃ j sj : Nat, j ≤ N ∧ i = .int .i64 (j : Int) ∧ a = .int .i64 (sj : Int) ∧ Hid (sumI N x.L j = sj)) (fun _ i => N - (intOf i).toNat)
              case atStart => exact ⟨0, 0, Nat.zero_le _, rfl, rfl, Lib.hid rfl⟩
              case round =>
                obtain ⟨j, sj, hj, rfl, rfl, HJ⟩ := hrel
                by_cases hjn : j < N
                · have hjn1 : (j : Int) < (N : Int) := by omega
                  have HZ := Lib.hid (imSize_ij H9.out.1 hjn)
                  have hs1 := sumI_le (n := N) x.L (j + 1)
                  simp only [sumI] at hs1
                  rw [HJ.out] at hs1
                  have HSn : Hid (sumI N x.L (j + 1) = sj + cntI N x.L j) := Lib.hid (by simp only [sumI]; rw [HJ.out])
                  generalize cntI N x.L j = cn at *
                  go_wp2_with fail
                  refine HZ.out.mono ?_
                  rintro e w10 ⟨rfl, rfl⟩
                  go_wp2
                  go_round
                  case rel => exact ⟨j + 1, sj + cn, by omega, by go_num, by go_num, HSn⟩
                  case measure => simp [intOf]; omega
                · have hjn1 : ¬ (j : Int) < (N : Int) := by omega
                  have hsl : sj = x.L.length := by
                    have h5 := HJ.out
                    rw [show j = N by omega] at h5
                    exact h5.symm.trans HSum.out
                  rw [← hsl] at HLn
                  clear hsl HSum HJ
                  go_wp2_with fail
                  refine HLn.out.mono ?_
                  rintro e w10 ⟨rfl, rfl⟩
                  go_wp2
                  go_roundw
                  case rel => exact ⟨k + 1, x, by omega, by go_num, H9.out⟩
                  case measure => simp [intOf]; omega
        | true =>
          as_aux_lemma =>
            have HP := Lib.hid (imDrop_ij H4.out.1 (by omega) HU.out)
            obtain ⟨HT, p1⟩ := drop_had hh
            rw [hh] at HP
            generalize imDrop x id = y at *
            have c0 := H4.out.2 (bD, [.int .i64 1, .int .u64 id, .int .i64 s, .int .i64 g]) (by simp) 0 _ rfl
            have c1 := H4.out.2 (bD, [.int .i64 1, .int .u64 id, .int .i64 s, .int .i64 g]) (by simp) 1 _ rfl
            have c2 := H4.out.2 (bD, [.int .i64 1, .int .u64 id, .int .i64 s, .int .i64 g]) (by simp) 2 _ rfl
            have c3 := H4.out.2 (bD, [.int .i64 1, .int .u64 id, .int .i64 s, .int .i64 g]) (by simp) 3 _ rfl
            go_wp2_with fail
            refine HP.out.mono ?_
            rintro e w5 ⟨rfl, h1, hk2⟩
            have H5 := Lib.hid ((H4.out.keep h1 hk2).box [.int .i64 (imGet x id).1, .int .i64 (imGet x id).2] 36)
            clear h1 hk2 HP c0 c1 c2 c3 H4
            have c0 := H5.out.2 (bD, [.int .i64 1, .int .u64 id, .int .i64 s, .int .i64 g]) (by simp) 0 _ rfl
            have c1 := H5.out.2 (bD, [.int .i64 1, .int .u64 id, .int .i64 s, .int .i64 g]) (by simp) 1 _ rfl
            have c2 := H5.out.2 (bD, [.int .i64 1, .int .u64 id, .int .i64 s, .int .i64 g]) (by simp) 2 _ rfl
            have c3 := H5.out.2 (bD, [.int .i64 1, .int .u64 id, .int .i64 s, .int .i64 g]) (by simp) 3 _ rfl
            have HG := Lib.hid (imGet_ij H5.out.1 HU.out)
            rw [p1] at HG
            go_wp2_with fail
            refine HG.out.mono ?_
            rintro e w6 ⟨rfl, h1, hk2⟩
            have H6 := Lib.hid ((H5.out.later hk2).box [.int .i64 (imGet y id).1, .int .i64 (imGet y id).2] 36)
            clear h1 hk2 HG c0 c1 c2 c3 H5
            have c0 := H6.out.2 (bD, [.int .i64 1, .int .u64 id, .int .i64 s, .int .i64 g]) (by simp) 0 _ rfl
            have c1 := H6.out.2 (bD, [.int .i64 1, .int .u64 id, .int .i64 s, .int .i64 g]) (by simp) 1 _ rfl
            have c2 := H6.out.2 (bD, [.int .i64 1, .int .u64 id, .int .i64 s, .int .i64 g]) (by simp) 2 _ rfl
            have c3 := H6.out.2 (bD, [.int .i64 1, .int .u64 id, .int .i64 s, .int .i64 g]) (by simp) 3 _ rfl
            have d0 := H6.out.2 (w5.heap.size, [.int .i64 (imGet x id).1, .int .i64 (imGet x id).2]) (by simp) 0 _ rfl
            have d1 := H6.out.2 (w5.heap.size, [.int .i64 (imGet x id).1, .int .i64 (imGet x id).2]) (by simp) 1 _ rfl
            have f0 := H6.out.2 (w3.heap.size, [.int .i64 (imGet x id).1, .int .i64 (imGet x id).2]) (by simp) 0 _ rfl
            have f1 := H6.out.2 (w3.heap.size, [.int .i64 (imGet x id).1, .int .i64 (imGet x id).2]) (by simp) 1 _ rfl
            have hvy : (y.v : Int) = (x.v : Int) + 1 := by have := HT.ver; simp only [Bool.toNat_true] at this; omega
            rcases Decidable.em (o = id) with ho | ho
            · have ho2 := ho.symm
              clear ho
              subst ho2
              have HGO := Lib.hid (imGet_ij H6.out.1 HO.out)
              have c0 := H6.out.2 (bD, [.int .i64 1, .int .u64 id, .int .i64 s, .int .i64 g]) (by simp) 0 _ rfl
              have c1 := H6.out.2 (bD, [.int .i64 1, .int .u64 id, .int .i64 s, .int .i64 g]) (by simp) 1 _ rfl
              have c2 := H6.out.2 (bD, [.int .i64 1, .int .u64 id, .int .i64 s, .int .i64 g]) (by simp) 2 _ rfl
              have c3 := H6.out.2 (bD, [.int .i64 1, .int .u64 id, .int .i64 s, .int .i64 g]) (by simp) 3 _ rfl
              go_wp2_with fail
              refine HGO.out.mono ?_
              rintro e w8 ⟨rfl, h1, hk2⟩
              have H8 := Lib.hid ((H6.out.later hk2).box [.int .i64 (imGet y id).1, .int .i64 (imGet y id).2] 36)
              clear h1 hk2 HGO c0 c1 c2 c3
              have c0 := H8.out.2 (bD, [.int .i64 1, .int .u64 id, .int .i64 s, .int .i64 g]) (by simp) 0 _ rfl
              have c1 := H8.out.2 (bD, [.int .i64 1, .int .u64 id, .int .i64 s, .int .i64 g]) (by simp) 1 _ rfl
              have c2 := H8.out.2 (bD, [.int .i64 1, .int .u64 id, .int .i64 s, .int .i64 g]) (by simp) 2 _ rfl
              have c3 := H8.out.2 (bD, [.int .i64 1, .int .u64 id, .int .i64 s, .int .i64 g]) (by simp) 3 _ rfl
              have d0 := H8.out.2 (w8.heap.size, [.int .i64 (imGet y id).1, .int .i64 (imGet y id).2]) (by simp) 0 _ rfl
              have d1 := H8.out.2 (w8.heap.size, [.int .i64 (imGet y id).1, .int .i64 (imGet y id).2]) (by simp) 1 _ rfl
              have f0 := H8.out.2 (w4.heap.size, [.int .i64 (imGet x id).1, .int .i64 (imGet x id).2]) (by simp) 0 _ rfl
              have f1 := H8.out.2 (w4.heap.size, [.int .i64 (imGet x id).1, .int .i64 (imGet x id).2]) (by simp) 1 _ rfl
              have HV := Lib.hid (imVer_ij H8.out.1)
              rw [hvy] at HV
              have HLn := Lib.hid (imLen_ij H8.out.1 (by omega))
              have HS := Lib.hid (imShard_ij H8.out.1 HU.out)
              go_wp2_with fail
              refine HV.out.mono ?_
              rintro e w9 ⟨rfl, rfl⟩
              go_wp2_with fail
              refine HS.out.mono ?_
              rintro e w9 ⟨rfl, hdr⟩
              have H9 := Lib.hid ((H8.out.later (hdr.below _)).sub (L' := []) (fun p hp => by cases hp))
              clear HV HLn HS hdr H8 c0 c1 c2 c3 d0 d1 f0 f1
              have hsk := shI_lt hN1 id
              generalize shI N id = sk at *
              have hsk0 : decide ((sk : Int) < 0) = false := by simp
              have hsk1 : decide ((N : Int) ≤ (sk : Int)) = false := by simp; omega
              have HLn := Lib.hid (imLen_ij H9.out.1 (by omega))
              have HSum : Hid (sumI N y.L N = y.L.length) := Lib.hid (sumI_all hN1 _)
              have hlen := H9.out.1.fit.len
              go_wp2
              go_loop [27, 208] (fun a i => ∃ j sj : Nat, j ≤ N ∧ i = .int .i64 (j : Int) ∧ a = .int .i64 (sj : Int) ∧ Hid (sumI N y.L j = sj)) (fun _ i => N - (intOf i).toNat)
              case atStart => exact ⟨0, 0, Nat.zero_le _, rfl, rfl, Lib.hid rfl⟩
              case round =>
                obtain ⟨j, sj, hj, rfl, rfl, HJ⟩ := hrel
                by_cases hjn : j < N
                · have hjn1 : (j : Int) < (N : Int) := by omega
                  have HZ := Lib.hid (imSize_ij H9.out.1 hjn)
                  have hs1 := sumI_le (n := N) y.L (j + 1)
                  simp only [sumI] at hs1
                  rw [HJ.out] at hs1
                  have HSn : Hid (sumI N y.L (j + 1) = sj + cntI N y.L j) := Lib.hid (by simp only [sumI]; rw [HJ.out])
                  generalize cntI N y.L j = cn at *
                  go_wp2_with fail
                  refine HZ.out.mono ?_
                  rintro e w10 ⟨rfl, rfl⟩
                  go_wp2
                  go_round
                  case rel => exact ⟨j + 1, sj + cn, by omega, by go_num, by go_num, HSn⟩
                  case measure => simp [intOf]; omega
                · have hjn1 : ¬ (j : Int) < (N : Int) := by omega
                  have hsl : sj = y.L.length := by
                    have h5 := HJ.out
                    rw [show j = N by omega] at h5
                    exact h5.symm.trans HSum.out
                  rw [← hsl] at HLn
                  clear hsl HSum HJ
                  go_wp2_with fail
                  refine HLn.out.mono ?_
                  rintro e w10 ⟨rfl, rfl⟩
                  go_wp2
                  go_roundw
                  case rel => exact ⟨k + 1, y, by omega, by go_num, H9.out⟩
                  case measure => simp [intOf]; omega
            · have hoi := ho
              have HGO := Lib.hid (imGet_ij H6.out.1 HO.out)
              rw [(HT.oth o ho).1, (HT.oth o ho).2] at HGO
              have c0 := H6.out.2 (bD, [.int .i64 1, .int .u64 id, .int .i64 s, .int .i64 g]) (by simp) 0 _ rfl
              have c1 := H6.out.2 (bD, [.int .i64 1, .int .u64 id, .int .i64 s, .int .i64 g]) (by simp) 1 _ rfl
              have c2 := H6.out.2 (bD, [.int .i64 1, .int .u64 id, .int .i64 s, .int .i64 g]) (by simp) 2 _ rfl
              have c3 := H6.out.2 (bD, [.int .i64 1, .int .u64 id, .int .i64 s, .int .i64 g]) (by simp) 3 _ rfl
              go_wp2_with fail
              refine HGO.out.mono ?_
              rintro e w8 ⟨rfl, h1, hk2⟩
              have H8 := Lib.hid ((H6.out.later hk2).box [.int .i64 (imGet x o).1, .int .i64 (imGet x o).2] 36)
              clear h1 hk2 HGO c0 c1 c2 c3
              have c0 := H8.out.2 (bD, [.int .i64 1, .int .u64 id, .int .i64 s, .int .i64 g]) (by simp) 0 _ rfl
              have c1 := H8.out.2 (bD, [.int .i64 1, .int .u64 id, .int .i64 s, .int .i64 g]) (by simp) 1 _ rfl
              have c2 := H8.out.2 (bD, [.int .i64 1, .int .u64 id, .int .i64 s, .int .i64 g]) (by simp) 2 _ rfl
              have c3 := H8.out.2 (bD, [.int .i64 1, .int .u64 id, .int .i64 s, .int .i64 g]) (by simp) 3 _ rfl
              have d0 := H8.out.2 (w8.heap.size, [.int .i64 (imGet x o).1, .int .i64 (imGet x o).2]) (by simp) 0 _ rfl
              have d1 := H8.out.2 (w8.heap.size, [.int .i64 (imGet x o).1, .int .i64 (imGet x o).2]) (by simp) 1 _ rfl
              have f0 := H8.out.2 (w4.heap.size, [.int .i64 (imGet x o).1, .int .i64 (imGet x o).2]) (by simp) 0 _ rfl
              have f1 := H8.out.2 (w4.heap.size, [.int .i64 (imGet x o).1, .int .i64 (imGet x o).2]) (by simp) 1 _ rfl
              have HV := Lib.hid (imVer_ij H8.out.1)
              rw [hvy] at HV
              have HLn := Lib.hid (imLen_ij H8.out.1 (by omega))
              have HS := Lib.hid (imShard_ij H8.out.1 HU.out)
              go_wp2_with fail
              refine HV.out.mono ?_
              rintro e w9 ⟨rfl, rfl⟩
              go_wp2_with fail
              refine HS.out.mono ?_
              rintro e w9 ⟨rfl, hdr⟩
              have H9 := Lib.hid ((H8.out.later (hdr.below _)).sub (L' := []) (fun p hp => by cases hp))
              clear HV HLn HS hdr H8 c0 c1 c2 c3 d0 d1 f0 f1
              have hsk := shI_lt hN1 id
              generalize shI N id = sk at *
              have hsk0 : decide ((sk : Int) < 0) = false := by simp
              have hsk1 : decide ((N : Int) ≤ (sk : Int)) = false := by simp; omega
              have HLn := Lib.hid (imLen_ij H9.out.1 (by omega))
              have HSum : Hid (sumI N y.L N = y.L.length) := Lib.hid (sumI_all hN1 _)
              have hlen := H9.out.1.fit.len
              go_wp2
              go_loop [27, 208] (fun a i => ∃ j sj : Nat, j ≤ N ∧ i = .int .i64 (j : Int) ∧ a = .int .i64 (sj : Int) ∧ Hid (sumI N y.L j = sj)) (fun _ i => N - (intOf i).toNat)
              case atStart => exact ⟨0, 0, Nat.zero_le _, rfl, rfl, Lib.hid rfl⟩
              case round =>
                obtain ⟨j, sj, hj, rfl, rfl, HJ⟩ := hrel
                by_cases hjn : j < N
                · have hjn1 : (j : Int) < (N : Int) := by omega
                  have HZ := Lib.hid (imSize_ij H9.out.1 hjn)
                  have hs1 := sumI_le (n := N) y.L (j + 1)
                  simp only [sumI] at hs1
                  rw [HJ.out] at hs1
                  have HSn : Hid (sumI N y.L (j + 1) = sj + cntI N y.L j) := Lib.hid (by simp only [sumI]; rw [HJ.out])
                  generalize cntI N y.L j = cn at *
                  go_wp2_with fail
                  refine HZ.out.mono ?_
                  rintro e w10 ⟨rfl, rfl⟩
                  go_wp2
                  go_round
                  case rel => exact ⟨j + 1, sj + cn, by omega, by go_num, by go_num, HSn⟩
                  case measure => simp [intOf]; omega
                · have hjn1 : ¬ (j : Int) < (N : Int) := by omega
                  have hsl : sj = y.L.length := by
                    have h5 := HJ.out
                    rw [show j = N by omega] at h5
                    exact h5.symm.trans HSum.out
                  rw [← hsl] at HLn
                  clear hsl HSum HJ
                  go_wp2_with fail
                  refine HLn.out.mono ?_
                  rintro e w10 ⟨rfl, rfl⟩
                  go_wp2
                  go_roundw
                  case rel => exact ⟨k + 1, y, by omega, by go_num, H9.out⟩
                  case measure => simp [intOf]; omega
      as_aux_lemma =>
        have H6 := Lib.hid (H4.out.more (Nat.le_succ k))
        clear H4
        have k0n : ¬ kd = 0 := k0
        have k1n : ¬ kd = 1 := k1
        rcases Decidable.em (o = id) with ho | ho
        · have ho2 := ho.symm
          clear ho
          subst ho2
          have HGO := Lib.hid (imGet_ij H6.out.1 HO.out)
          have c0 := H6.out.2 (bD, [.int .i64 kd, .int .u64 id, .int .i64 s, .int .i64 g]) (by simp) 0 _ rfl
          have c1 := H6.out.2 (bD, [.int .i64 kd, .int .u64 id, .int .i64 s, .int .i64 g]) (by simp) 1 _ rfl
          have c2 := H6.out.2 (bD, [.int .i64 kd, .int .u64 id, .int .i64 s, .int .i64 g]) (by simp) 2 _ rfl
          have c3 := H6.out.2 (bD, [.int .i64 kd, .int .u64 id, .int .i64 s, .int .i64 g]) (by simp) 3 _ rfl
          go_wp2_with fail
          refine HGO.out.mono ?_
          rintro e w8 ⟨rfl, h1, hk2⟩
          have H8 := Lib.hid ((H6.out.later hk2).box [.int .i64 (imGet x id).1, .int .i64 (imGet x id).2] 36)
          clear h1 hk2 HGO c0 c1 c2 c3
          have c0 := H8.out.2 (bD, [.int .i64 kd, .int .u64 id, .int .i64 s, .int .i64 g]) (by simp) 0 _ rfl
          have c1 := H8.out.2 (bD, [.int .i64 kd, .int .u64 id, .int .i64 s, .int .i64 g]) (by simp) 1 _ rfl
          have c2 := H8.out.2 (bD, [.int .i64 kd, .int .u64 id, .int .i64 s, .int .i64 g]) (by simp) 2 _ rfl
          have c3 := H8.out.2 (bD, [.int .i64 kd, .int .u64 id, .int .i64 s, .int .i64 g]) (by simp) 3 _ rfl
          have d0 := H8.out.2 (w8.heap.size, [.int .i64 (imGet x id).1, .int .i64 (imGet x id).2]) (by simp) 0 _ rfl
          have d1 := H8.out.2 (w8.heap.size, [.int .i64 (imGet x id).1, .int .i64 (imGet x id).2]) (by simp) 1 _ rfl
          have f0 := H8.out.2 (w4.heap.size, [.int .i64 (imGet x id).1, .int .i64 (imGet x id).2]) (by simp) 0 _ rfl
          have f1 := H8.out.2 (w4.heap.size, [.int .i64 (imGet x id).1, .int .i64 (imGet x id).2]) (by simp) 1 _ rfl
          have HV := Lib.hid (imVer_ij H8.out.1)
          have HLn := Lib.hid (imLen_ij H8.out.1 (by omega))
          have HS := Lib.hid (imShard_ij H8.out.1 HU.out)
          go_wp2_with fail
          refine HV.out.mono ?_
          rintro e w9 ⟨rfl, rfl⟩
          go_wp2_with fail
          refine HV.out.mono ?_
          rintro e w9 ⟨rfl, rfl⟩
          go_wp2_with fail
          refine HLn.out.mono ?_
          rintro e w9 ⟨rfl, rfl⟩
          go_wp2_with fail
          refine HS.out.mono ?_
          rintro e w9 ⟨rfl, hdr⟩
          have H9 := Lib.hid ((H8.out.later (hdr.below _)).sub (L' := []) (fun p hp => by cases hp))
          clear HV HLn HS hdr H8 c0 c1 c2 c3 d0 d1 f0 f1
          have hsk := shI_lt hN1 id
          generalize shI N id = sk at *
          have hsk0 : decide ((sk : Int) < 0) = false := by simp
          have hsk1 : decide ((N : Int) ≤ (sk : Int)) = false := by simp; omega
          have HLn := Lib.hid (imLen_ij H9.out.1 (by omega))
          have HSum : Hid (sumI N x.L N = x.L.length) := Lib.hid (sumI_all hN1 _)
          have hlen := H9.out.1.fit.len
          go_wp2
          go_loop [27, 208] (fun a i => ∃ j sj : Nat, j ≤ N ∧ i = .int .i64 (j : Int) ∧ a = .int .i64 (sj : Int) ∧ Hid (sumI N x.L j = sj)) (fun _ i => N - (intOf i).toNat)
          case atStart => exact ⟨0, 0, Nat.zero_le _, rfl, rfl, Lib.hid rfl⟩
          case round =>
            obtain ⟨j, sj, hj, rfl, rfl, HJ⟩ := hrel
            by_cases hjn : j < N
            · have hjn1 : (j : Int) < (N : Int) := by omega
              have HZ := Lib.hid (imSize_ij H9.out.1 hjn)
              have hs1 := sumI_le (n := N) x.L (j + 1)
              simp only [sumI] at hs1
              rw [HJ.out] at hs1
              have HSn : Hid (sumI N x.L (j + 1) = sj + cntI N x.L j) := Lib.hid (by simp only [sumI]; rw [HJ.out])
              generalize cntI N x.L j = cn at *
              go_wp2_with fail
              refine HZ.out.mono ?_
              rintro e w10 ⟨rfl, rfl⟩
              go_wp2
              go_round
              case rel => exact ⟨j + 1, sj + cn, by omega, by go_num, by go_num, HSn⟩
              case measure => simp [intOf]; omega
            · have hjn1 : ¬ (j : Int) < (N : Int) := by omega
              have hsl : sj = x.L.length := by
                have h5 := HJ.out
                rw [show j = N by omega] at h5
                exact h5.symm.trans HSum.out
              rw [← hsl] at HLn
              clear hsl HSum HJ
              go_wp2_with fail
              refine HLn.out.mono ?_
              rintro e w10 ⟨rfl, rfl⟩
              go_wp2
              go_roundw
              case rel => exact ⟨k + 1, x, by omega, by go_num, H9.out⟩
              case measure => simp [intOf]; omega
        · have hoi := ho
          have HGO := Lib.hid (imGet_ij H6.out.1 HO.out)
          have c0 := H6.out.2 (bD, [.int .i64 kd, .int .u64 id, .int .i64 s, .int .i64 g]) (by simp) 0 _ rfl
          have c1 := H6.out.2 (bD, [.int .i64 kd, .int .u64 id, .int .i64 s, .int .i64 g]) (by simp) 1 _ rfl
          have c2 := H6.out.2 (bD, [.int .i64 kd, .int .u64 id, .int .i64 s, .int .i64 g]) (by simp) 2 _ rfl
          have c3 := H6.out.2 (bD, [.int .i64 kd, .int .u64 id, .int .i64 s, .int .i64 g]) (by simp) 3 _ rfl
          go_wp2_with fail
          refine HGO.out.mono ?_
          rintro e w8 ⟨rfl, h1, hk2⟩
          have H8 := Lib.hid ((H6.out.later hk2).box [.int .i64 (imGet x o).1, .int .i64 (imGet x o).2] 36)
          clear h1 hk2 HGO c0 c1 c2 c3
          have c0 := H8.out.2 (bD, [.int .i64 kd, .int .u64 id, .int .i64 s, .int .i64 g]) (by simp) 0 _ rfl
          have c1 := H8.out.2 (bD, [.int .i64 kd, .int .u64 id, .int .i64 s, .int .i64 g]) (by simp) 1 _ rfl
          have c2 := H8.out.2 (bD, [.int .i64 kd, .int .u64 id, .int .i64 s, .int .i64 g]) (by simp) 2 _ rfl
          have c3 := H8.out.2 (bD, [.int .i64 kd, .int .u64 id, .int .i64 s, .int .i64 g]) (by simp) 3 _ rfl
          have d0 := H8.out.2 (w8.heap.size, [.int .i64 (imGet x o).1, .int .i64 (imGet x o).2]) (by simp) 0 _ rfl
          have d1 := H8.out.2 (w8.heap.size, [.int .i64 (imGet x o).1, .int .i64 (imGet x o).2]) (by simp) 1 _ rfl
          have f0 := H8.out.2 (w4.heap.size, [.int .i64 (imGet x o).1, .int .i64 (imGet x o).2]) (by simp) 0 _ rfl
          have f1 := H8.out.2 (w4.heap.size, [.int .i64 (imGet x o).1, .int .i64 (imGet x o).2]) (by simp) 1 _ rfl
          have HV := Lib.hid (imVer_ij H8.out.1)
          have HLn := Lib.hid (imLen_ij H8.out.1 (by omega))
          have HS := Lib.hid (imShard_ij H8.out.1 HU.out)
          go_wp2_with fail
          refine HV.out.mono ?_
          rintro e w9 ⟨rfl, rfl⟩
          go_wp2_with fail
          refine HV.out.mono ?_
          rintro e w9 ⟨rfl, rfl⟩
          go_wp2_with fail
          refine HLn.out.mono ?_
          rintro e w9 ⟨rfl, rfl⟩
          go_wp2_with fail
          refine HS.out.mono ?_
          rintro e w9 ⟨rfl, hdr⟩
          have H9 := Lib.hid ((H8.out.later (hdr.below _)).sub (L' := []) (fun p hp => by cases hp))
          clear HV HLn HS hdr H8 c0 c1 c2 c3 d0 d1 f0 f1
          have hsk := shI_lt hN1 id
          generalize shI N id = sk at *
          have hsk0 : decide ((sk : Int) < 0) = false := by simp
          have hsk1 : decide ((N : Int) ≤ (sk : Int)) = false := by simp; omega
          have HLn := Lib.hid (imLen_ij H9.out.1 (by omega))
          have HSum : Hid (sumI N x.L N = x.L.length) := Lib.hid (sumI_all hN1 _)
          have hlen := H9.out.1.fit.len
          go_wp2
          go_loop [27, 208] (fun a i => ∃ j sj : Nat, j ≤ N ∧ i = .int .i64 (j : Int) ∧ a = .int .i64 (sj : Int) ∧ Hid (sumI N x.L j = sj)) (fun _ i => N - (intOf i).toNat)
          case atStart => exact ⟨0, 0, Nat.zero_le _, rfl, rfl, Lib.hid rfl⟩
          case round =>
            obtain ⟨j, sj, hj, rfl, rfl, HJ⟩ := hrel
            by_cases hjn : j < N
            · have hjn1 : (j : Int) < (N : Int) := by omega
              have HZ := Lib.hid (imSize_ij H9.out.1 hjn)
              have hs1 := sumI_le (n := N) x.L (j + 1)
              simp only [sumI] at hs1
              rw [HJ.out] at hs1
              have HSn : Hid (sumI N x.L (j + 1) = sj + cntI N x.L j) := Lib.hid (by simp only [sumI]; rw [HJ.out])
              generalize cntI N x.L j = cn at *
              go_wp2_with fail
              refine HZ.out.mono ?_
              rintro e w10 ⟨rfl, rfl⟩
              go_wp2
              go_round
              case rel => exact ⟨j + 1, sj + cn, by omega, by go_num, by go_num, HSn⟩
              case measure => simp [intOf]; omega
            · have hjn1 : ¬ (j : Int) < (N : Int) := by omega
              have hsl : sj = x.L.length := by
                have h5 := HJ.out
                rw [show j = N by omega] at h5
                exact h5.symm.trans HSum.out
              rw [← hsl] at HLn
              clear hsl HSum HJ
              go_wp2_with fail
              refine HLn.out.mono ?_
              rintro e w10 ⟨rfl, rfl⟩
              go_wp2
              go_roundw
              case rel => exact ⟨k + 1, x, by omega, by go_num, H9.out⟩
              case measure => simp [intOf]; omega
    · go_wp2
      go_ret
      exact ⟨rfl, HB1.out.trans ((hE.1.bel).mono HB1.out.size)⟩

end Go.Proofs.Yteiknnpoaijobaa
