/- A map of more shards, with the same changes, has the same refs (TopSharded), walked. -/
import Derived.Test.YteiknnpoaijobaaShardTwo
import Derived.Test.YteiknnpoaijobaaHeldN
import Derived.Test.YteiknnpoaijobaaOnceBox
import Derived.Test.YteiknnpoaijobaaLawChange
namespace Go.Proofs.Yteiknnpoaijobaa
open Go.RowKit

theorem drop_pair (n k : Nat) (L : List EntI) (v : Nat) (i : Int) : ∃ L' v', imDrop ⟨n, L, v⟩ i = ⟨n, L', v'⟩ ∧ imDrop ⟨k, L, v⟩ i = ⟨k, L', v'⟩ := by
  unfold imDrop
  rw [show imHas ⟨k, L, v⟩ i = imHas ⟨n, L, v⟩ i from rfl]
  split
  · exact ⟨_, _, rfl, rfl⟩
  · exact ⟨_, _, rfl, rfl⟩
theorem put_pair (n k : Nat) (L : List EntI) (v : Nat) (i : Int) (r : RefT) : ∃ L' v', imPut ⟨n, L, v⟩ i r = ⟨n, L', v'⟩ ∧ imPut ⟨k, L, v⟩ i r = ⟨k, L', v'⟩ := by
  unfold imPut
  rw [show imHas ⟨k, L, v⟩ i = imHas ⟨n, L, v⟩ i from rfl]
  split
  · exact ⟨_, _, rfl, rfl⟩
  · exact ⟨_, _, rfl, rfl⟩
/-- Which of the two puts has been done. -/
def JS (w0 : World) (m B bs : Nat) (bm : Nat → Nat) (n C cs : Nat) (cm : Nat → Nat) (k : Nat) (x y : IX) (id s : Int) (D : List (Nat × List Value)) (L : Nat → Bool) (W : World) : Prop :=
  TS w0 (m + (L 5).toNat + (L 11).toNat) B bs bm n C cs cm k (if L 5 = true then imPut x id (s, 0) else x) (if L 11 = true then imPut y id (s, 0) else y) D W
section
variable {w0 W : World} {m B bs n C cs k i : Nat} {bm cm : Nat → Nat} {x y : IX} {id s : Int} {D : List (Nat × List Value)} {L : Nat → Bool}
theorem JS.cells (h : JS w0 m B bs bm n C cs cm k x y id s D L W) : ∀ p ∈ D, ∀ (j : Nat) (v : Value), p.2[j]? = some v → W.cell? ⟨p.1, j, none⟩ = some v := TS.cells h
theorem JS.read (h : JS w0 m B bs bm n C cs cm k x y id s D L W) (h2 : i ≠ 5) (h5 : i ≠ 11) : JS w0 m B bs bm n C cs cm k x y id s D (updL L i) W := by
  unfold JS updL at *
  simp only [if_neg (show ¬ 5 = i from fun e => h2 e.symm), if_neg (show ¬ 11 = i from fun e => h5 e.symm)]
  exact h
theorem JS.putA (h : JS w0 m B bs bm n C cs cm k x y id s D L W) (hm : m < 90000) (hi : IsU id) (hl : L 5 = false) : Calls Try.prog 31 #[.pointer (some ⟨B, 0, none⟩), .int .u64 id, .agg #[.int .i64 s, .int .i64 0]] W fun e W' => e = .returned (.bool (!imHas x id)) ∧ JS w0 m B bs bm n C cs cm k x y id s D (updL L 5) W' := by
  unfold JS updL at *
  simp only [if_true, if_neg (show ¬ 11 = 5 by decide)]
  rw [hl] at h
  have hb : (L 11).toNat ≤ 1 := by cases L 11 <;> decide
  refine (h.putA (by simp; omega) hi s 0).mono ?_
  rintro e W' ⟨rfl, h1⟩
  refine ⟨rfl, ?_⟩
  have e1 : m + true.toNat + (L 11).toNat = m + false.toNat + (L 11).toNat + 1 := by simp only [Bool.toNat_true, Bool.toNat_false]; omega
  rw [e1]
  exact h1
theorem JS.putB (h : JS w0 m B bs bm n C cs cm k x y id s D L W) (hm : m < 90000) (hi : IsU id) (hl : L 11 = false) : Calls Try.prog 31 #[.pointer (some ⟨C, 0, none⟩), .int .u64 id, .agg #[.int .i64 s, .int .i64 0]] W fun e W' => e = .returned (.bool (!imHas y id)) ∧ JS w0 m B bs bm n C cs cm k x y id s D (updL L 11) W' := by
  unfold JS updL at *
  simp only [if_true, if_neg (show ¬ 5 = 11 by decide)]
  rw [hl] at h
  have hb : (L 5).toNat ≤ 1 := by cases L 5 <;> decide
  refine (h.putB (by simp; omega) hi s 0).mono ?_
  rintro e W' ⟨rfl, h1⟩
  exact ⟨rfl, h1⟩
end

set_option maxRecDepth 100000 in
set_option maxHeartbeats 16000000 in
theorem TopSharded_walk (p q : Int) (A : Option Addr) (zs : List (Bool × Int)) (c : Nat) (w : World) (hA : RdCh w w.heap.size A zs) (hI : ∀ x ∈ zs, IsU x.2) (hl : zs.length ≤ 9223372036854775807) (_ : zs.length ≤ c) (_ : A = none → c = 0) :
    Calls Try.prog 11 #[.int .i64 p, .int .i64 q, .slice A zs.length c] w fun e w' => e = .returned (.bool true) ∧ Below w.heap.size w w' := by
  have hmix : Try.prog.follows .mixedOrders = true := by kernel_rfl
  by_cases hgood : (1 ≤ p ∧ p ≤ 64) ∧ (1 ≤ q ∧ q ≤ 64) ∧ zs.length ≤ 80
  rotate_left 1
  · have HN := Lib.hid (fun (v : Int) (hv : v < 1 ∨ 64 < v) W => imNew_not v hv W)
    clear hA hI
    have hany : ∀ (v : Int) (W : World), Calls Try.prog 28 #[.int .i64 v] W fun e w' => ∃ (a : Option Addr) (z : Int), e = .returned (.tuple #[.pointer a, .int .i64 z]) ∧ Below W.heap.size W w' ∧ ((1 ≤ v ∧ v ≤ 64 ∧ z = 0 ∧ ∃ B, a = some ⟨B, 0, none⟩) ∨ ((v < 1 ∨ 64 < v) ∧ a = none ∧ z = 6)) := by
      intro v W
      by_cases hv : v < 1 ∨ 64 < v
      · exact (imNew_not v hv W).mono fun _ _ ⟨h1, h2⟩ => ⟨none, 6, h1, by rw [← h2]; exact Below.refl _ _, .inr ⟨hv, rfl, rfl⟩⟩
      · obtain ⟨N, rfl⟩ : ∃ N : Nat, v = (N : Int) := ⟨v.toNat, by omega⟩
        exact (imNew_ij N (by omega) (by omega) W).mono fun _ _ ⟨B, _, _, h1, h2⟩ => ⟨some ⟨B, 0, none⟩, 0, h1, h2.bel, .inl ⟨by omega, by omega, rfl, B, rfl⟩⟩
    have HA2 := Lib.hid hany
    clear hany HN
    go_enter Try.func11, Try.ntmps11
    go_wp2_with fail
    refine (begins11_any _).mono ?_
    rintro e w1 ⟨rfl, hb1⟩
    have HB1 := Lib.hid hb1
    clear hb1
    go_wp2_with fail
    refine (HA2.out p _).mono ?_
    rintro e wa ⟨a1, z1, rfl, hba, ha⟩
    have HBa := Lib.hid (HB1.out.trans (hba.mono HB1.out.size))
    clear hba HB1
    go_wp2_with fail
    refine (HA2.out q _).mono ?_
    rintro e wb ⟨a2, z2, rfl, hbb, hb⟩
    have HBb := Lib.hid (HBa.out.trans (hbb.mono HBa.out.size))
    clear hbb HBa HA2
    rcases ha with ⟨p1, p2, rfl, B, rfl⟩ | ⟨hp, rfl, rfl⟩
    · have p1' : ¬ p < 1 := by omega
      have p2' : ¬ 64 < p := by omega
      rcases hb with ⟨q1, q2, rfl, C, rfl⟩ | ⟨hq, rfl, rfl⟩
      · have q1' : ¬ q < 1 := by omega
        have q2' : ¬ 64 < q := by omega
        have hlz : (80 : Int) < (zs.length : Int) := by omega
        go_wp2
        go_ret
        exact ⟨rfl, HBb.out⟩
      · by_cases q1 : q < 1
        · go_wp2
          go_ret
          exact ⟨rfl, HBb.out⟩
        · have q2 : 64 < q := by omega
          go_wp2
          go_ret
          exact ⟨rfl, HBb.out⟩
    · by_cases p1 : p < 1
      · go_wp2
        go_ret
        exact ⟨rfl, HBb.out⟩
      · have p2 : 64 < p := by omega
        go_wp2
        go_ret
        exact ⟨rfl, HBb.out⟩
  obtain ⟨⟨hp1, hp2⟩, ⟨hq1, hq2⟩, hz⟩ := hgood
  obtain ⟨N, rfl⟩ : ∃ N : Nat, p = (N : Int) := ⟨p.toNat, by omega⟩
  obtain ⟨M, rfl⟩ : ∃ M : Nat, q = (M : Int) := ⟨q.toNat, by omega⟩
  have hi : ¬ (80 : Int) < (zs.length : Int) := by omega
  have HI := Lib.hid hI
  clear hI
  go_enter Try.func11, Try.ntmps11
  go_wp2_with fail
  refine (begins11_any _).mono ?_
  rintro e w1 ⟨rfl, hb1⟩
  have HB1 := Lib.hid hb1
  have HA := Lib.hid (hA.below hb1)
  clear hb1 hA
  go_wp2_with fail
  refine (imNew_ij N (by omega) (by omega) _).mono ?_
  rintro e wa ⟨B, bs, bm, rfl, h2⟩
  go_wp2_with fail
  refine (imNew_ij M (by omega) (by omega) _).mono ?_
  rintro e wb ⟨C, cs, cm, rfl, h3⟩
  have H2 := Lib.hid (TS.new h2 h3)
  clear h2 h3
  go_wp2
  go_loopw [72] (fun i wr => ∃ (k : Nat) (K : List EntI) (v : Nat), k ≤ zs.length ∧ i = .int .i64 k ∧ TS w1 (2 * k) B bs bm N C cs cm M ⟨N, K, v⟩ ⟨M, K, v⟩ [] wr) (fun i _ => zs.length - (intOf i).toNat)
  case atStart => exact ⟨0, [], 0, Nat.zero_le _, rfl, H2.out⟩
  case round =>
    obtain ⟨k, K, v, hk, rfl, hE⟩ := hrel
    by_cases hlt : k < zs.length
    · obtain ⟨d, hd⟩ : ∃ d, zs[k]? = some d := ⟨_, List.getElem?_eq_getElem hlt⟩
      obtain ⟨b, off, rfl, hbb, q0, q1⟩ := HA.out k d hd
      have hU := HI.out d (List.mem_of_getElem? hd)
      obtain ⟨dr, id⟩ := d
      simp only at hU q0 q1
      have hbw : b < w1.heap.size := Nat.lt_of_lt_of_le hbb HB1.out.size
      have hbe := hE.a.bel
      have r0 := (hbe.cell (p := ⟨b, off + k * 2, none⟩) hbw).trans q0
      have r1 := (hbe.cell (p := ⟨b, off + k * 2 + 1, none⟩) hbw).trans q1
      clear q0 q1 hd hbe
      have hkl : (k : Int) < (zs.length : Int) := by omega
      have hk0 : (0 : Int) ≤ (k : Int) := by omega
      have HU := Lib.hid hU
      have HD := Lib.hid (hE.box [.bool dr, .int .u64 id] 137)
      clear hE hU
      generalize hbD : wr.heap.size = bD at HD
      cases dr with
      | true =>
        obtain ⟨L2, v2, e1, e2⟩ := drop_pair N M K v id
        have HP := Lib.hid (HD.out.dropA (by omega) HU.out)
        rw [e1] at HP
        have c0 := HD.out.cells (bD, [.bool true, .int .u64 id]) (by simp) 0 _ rfl
        have c1 := HD.out.cells (bD, [.bool true, .int .u64 id]) (by simp) 1 _ rfl
        go_wp2_with fail
        refine HP.out.mono ?_
        rintro e w3 ⟨rfl, h1⟩
        have H3 := Lib.hid (h1.box [.int .i64 (imGet ⟨N, K, v⟩ id).1, .int .i64 (imGet ⟨N, K, v⟩ id).2] 36)
        clear h1 HP c0 c1 HD
        have HP := Lib.hid (H3.out.dropB (by omega) HU.out)
        rw [e2, show imGet ⟨M, K, v⟩ id = imGet ⟨N, K, v⟩ id from rfl, show imHas ⟨M, K, v⟩ id = imHas ⟨N, K, v⟩ id from rfl] at HP
        have c0 := H3.out.cells (bD, [.bool true, .int .u64 id]) (by simp) 0 _ rfl
        have c1 := H3.out.cells (bD, [.bool true, .int .u64 id]) (by simp) 1 _ rfl
        go_wp2_with fail
        refine HP.out.mono ?_
        rintro e w4 ⟨rfl, h1⟩
        have H4 := Lib.hid (h1.box [.int .i64 (imGet ⟨N, K, v⟩ id).1, .int .i64 (imGet ⟨N, K, v⟩ id).2] 36)
        clear h1 HP c0 c1 H3 e1 e2
        have d0 := H4.out.cells (w3.heap.size, [.int .i64 (imGet ⟨N, K, v⟩ id).1, .int .i64 (imGet ⟨N, K, v⟩ id).2]) (by simp) 0 _ rfl
        have d1 := H4.out.cells (w3.heap.size, [.int .i64 (imGet ⟨N, K, v⟩ id).1, .int .i64 (imGet ⟨N, K, v⟩ id).2]) (by simp) 1 _ rfl
        have f0 := H4.out.cells (w4.heap.size, [.int .i64 (imGet ⟨N, K, v⟩ id).1, .int .i64 (imGet ⟨N, K, v⟩ id).2]) (by simp) 0 _ rfl
        have f1 := H4.out.cells (w4.heap.size, [.int .i64 (imGet ⟨N, K, v⟩ id).1, .int .i64 (imGet ⟨N, K, v⟩ id).2]) (by simp) 1 _ rfl
        have H5 := H4
        clear H4
        have HT := Lib.hid (H5.out.sub (D' := []) (fun p hp => by cases hp))
        clear H5
        have hm2 : 2 * k + 2 < 100000 := by omega
        have HL1 := Lib.hid (imList_ij HT.out.a hm2)
        simp only [] at HL1
        go_wp2_with fail
        refine HL1.out.mono ?_
        rintro e w8 ⟨A1, c1, rfl, hr1, hb1⟩
        have HR1 : Hid (RdN w8 0 A1 L2) := Lib.hid (RdN.lo hr1)
        have HT2 := Lib.hid (HT.out.later hb1)
        clear hr1 hb1 HL1 HT
        have HL2 := Lib.hid (imList_ij HT2.out.b hm2)
        simp only [] at HL2
        go_wp2_with fail
        refine HL2.out.mono ?_
        rintro e w9 ⟨A2, c2, rfl, hr2, hb2⟩
        have HR2 : Hid (RdN w9 0 A2 L2) := Lib.hid (RdN.lo hr2)
        have HR3 := Lib.hid (HR1.out.below hb2)
        have HT3 := Lib.hid (HT2.out.later hb2)
        clear hr2 hb2 HL2 HT2 HR1
        have HV1 := Lib.hid (imVer_ij HT3.out.a)
        have HV2 := Lib.hid (imVer_ij HT3.out.b)
        have HLn := Lib.hid (imLen_ij HT3.out.a hm2)
        simp only [] at HV1 HV2 HLn
        go_wp2_with fail
        refine HV1.out.mono ?_
        rintro e w10 ⟨rfl, rfl⟩
        go_wp2_with fail
        refine HV2.out.mono ?_
        rintro e w10 ⟨rfl, rfl⟩
        go_wp2_with fail
        refine HLn.out.mono ?_
        rintro e w10 ⟨rfl, rfl⟩
        clear HV1 HV2 HLn
        have hlen := HT3.out.a.fit.len
        simp only [] at hlen
        go_wp2
        go_loopw [139] (fun i wr => ∃ j : Nat, j ≤ L2.length ∧ i = .int .i64 (j : Int) ∧ Drawn w9 wr) (fun i _ => L2.length - (intOf i).toNat)
        case atStart => exact ⟨0, Nat.zero_le _, rfl, Drawn.refl⟩
        case round =>
          obtain ⟨j, hj, rfl, hdr⟩ := hrel
          by_cases hjl : j < L2.length
          · obtain ⟨b1, rfl, _, hbb1, h0, h1, h2⟩ := HR3.out j _ (List.getElem?_eq_getElem hjl)
            obtain ⟨b2, rfl, _, hbb2, g0, g1, g2⟩ := HR2.out j _ (List.getElem?_eq_getElem hjl)
            rw [← hdr.cell] at h0 h1 h2 g0 g1 g2
            generalize L2[j] = z at *
            have hkl2 : (j : Int) < (L2.length : Int) := by omega
            have hk02 : (0 : Int) ≤ (j : Int) := by omega
            go_wp2
            go_quiet (fail)
            go_wp2
            go_roundw
            case rel => exact ⟨j + 1, by omega, by go_num, hdr.step _⟩
            case measure => simp [intOf]; omega
          · have hkl3 : ¬ (j : Int) < (L2.length : Int) := by omega
            go_wp2
            go_roundw
            case rel => exact ⟨k + 1, L2, v2, by omega, by go_num, HT3.out.later (hdr.below _)⟩
            case measure => simp [intOf]; omega
      | false =>
        obtain ⟨L2, v2, e1, e2⟩ := put_pair N M K v id ((k : Int), 0)
        have c0 := HD.out.cells (bD, [.bool false, .int .u64 id]) (by simp) 0 _ rfl
        have c1 := HD.out.cells (bD, [.bool false, .int .u64 id]) (by simp) 1 _ rfl
        go_upto_region 15 with (fail)
        clear c0 c1
        have hst : JS w1 (2 * k) B bs bm N C cs cm M ⟨N, K, v⟩ ⟨M, K, v⟩ id (k : Int) [(bD, [.bool false, .int .u64 id])] (fun _ => false) _ := HD.out.later ((Drawn.refl.step 1).below _)
        refine region_once 153 hmix rfl (VO [some (.pointer (some ⟨B, 0, none⟩)), some (.pointer (some ⟨bD, 1, none⟩)), some (.int .u64 id), some (.int .i64 (k : Int)), some (.agg #[.int .i64 (k : Int), .int .i64 0]), some (.bool (!imHas ⟨N, K, v⟩ id)), some (.pointer (some ⟨C, 0, none⟩)), some (.pointer (some ⟨bD, 1, none⟩)), some (.int .u64 id), some (.int .i64 (k : Int)), some (.agg #[.int .i64 (k : Int), .int .i64 0]), some (.bool (!imHas ⟨N, K, v⟩ id)), some (.bool false)]) (JS w1 (2 * k) B bs bm N C cs cm M ⟨N, K, v⟩ ⟨M, K, v⟩ id (k : Int) [(bD, [.bool false, .int .u64 id])]) (by kernel_rfl) hst ?steps [101, 102, 103, 104, 105, 106, 107, 108, 109, 110, 111, 112, 113] rfl ?fin
        case steps =>
          clear hst HD e1 e2
          have hbx : (bD, [Value.bool false, .int .u64 id]) ∈ [(bD, [Value.bool false, .int .u64 id])] := by simp
          refine ⟨?_, ?_, ?_, ?_, ?_, ?_, ?_, ?_, ?_, ?_, ?_, ?_, ?_, trivial⟩
          · intro L a W hJ ho hL hc hw
            have e7 : a.eval (.tmp 7) = .pointer (some ⟨B, 0, none⟩) := ho 7 rfl
            clear hc hw hL ho
            exact once_run (v := .pointer (some ⟨B, 0, none⟩)) (wantO_none rfl) (by simp only [execOp, e7]; rfl) (fun u hu => by simpa using hu) (hJ.read (by decide) (by decide))
          · intro L a W hJ ho hL hc hw
            have e12 : a.eval (.tmp 12) = .pointer (some ⟨bD, 0, none⟩) := ho 12 rfl
            clear hc hw hL ho
            exact once_run (v := .pointer (some ⟨bD, 1, none⟩)) (wantO_none rfl) (by simp only [execOp, e12]; go_simp) (fun u hu => by simpa using hu) (hJ.read (by decide) (by decide))
          · intro L a W hJ ho hL hc hw
            have e102 : a.eval (.tmp 102) = .pointer (some ⟨bD, 1, none⟩) := (hw 1 rfl).2 102 rfl _ rfl
            have k1 := hJ.cells (bD, [.bool false, .int .u64 id]) hbx 1 _ rfl
            simp only [] at k1
            clear hc hw hL ho
            exact once_run (v := .int .u64 id) (wantO_none rfl) (by simp only [execOp, e102]; go_simp) (fun u hu => by simpa using hu) (hJ.read (by decide) (by decide))
          · intro L a W hJ ho hL hc hw
            have e11 : a.eval (.tmp 11) = .int .i64 (k : Int) := ho 11 rfl
            clear hc hw hL ho
            exact once_run (v := .int .i64 (k : Int)) (wantO_none rfl) (by simp only [execOp, e11]; rfl) (fun u hu => by simpa using hu) (hJ.read (by decide) (by decide))
          · intro L a W hJ ho hL hc hw
            have e104 : a.eval (.tmp 104) = .int .i64 (k : Int) := (hw 3 rfl).2 104 rfl _ rfl
            clear hc hw hL ho
            exact once_run (v := .agg #[.int .i64 (k : Int), .int .i64 0]) (wantO_none rfl) (by simp only [execOp]; simp only [List.map_toArray, List.map_cons, List.map_nil, e104]; go_simp) (fun u hu => by simpa using hu) (hJ.read (by decide) (by decide))
          · intro L a W hJ ho hL hc hw
            have e101 : a.eval (.tmp 101) = .pointer (some ⟨B, 0, none⟩) := (hw 0 rfl).2 101 rfl _ rfl
            have e103 : a.eval (.tmp 103) = .int .u64 id := (hw 2 rfl).2 103 rfl _ rfl
            have e105 : a.eval (.tmp 105) = .agg #[.int .i64 (k : Int), .int .i64 0] := (hw 4 rfl).2 105 rfl _ rfl
            exact once_call (wantO_none rfl) rfl (args := #[.pointer (some ⟨B, 0, none⟩), .int .u64 id, .agg #[.int .i64 (k : Int), .int .i64 0]]) (by simp [e101, e103, e105]) (by go_simp) (JS.putA hJ (by omega) HU.out hL) (fun e W' h => ⟨_, h.1, (fun u hu => by simpa using hu), h.2⟩)
          · intro L a W hJ ho hL hc hw
            have e9 : a.eval (.tmp 9) = .pointer (some ⟨C, 0, none⟩) := ho 9 rfl
            clear hc hw hL ho
            exact once_run (v := .pointer (some ⟨C, 0, none⟩)) (wantO_none rfl) (by simp only [execOp, e9]; rfl) (fun u hu => by simpa using hu) (hJ.read (by decide) (by decide))
          · intro L a W hJ ho hL hc hw
            have e12 : a.eval (.tmp 12) = .pointer (some ⟨bD, 0, none⟩) := ho 12 rfl
            clear hc hw hL ho
            exact once_run (v := .pointer (some ⟨bD, 1, none⟩)) (wantO_none rfl) (by simp only [execOp, e12]; go_simp) (fun u hu => by simpa using hu) (hJ.read (by decide) (by decide))
          · intro L a W hJ ho hL hc hw
            have e108 : a.eval (.tmp 108) = .pointer (some ⟨bD, 1, none⟩) := (hw 7 rfl).2 108 rfl _ rfl
            have k1 := hJ.cells (bD, [.bool false, .int .u64 id]) hbx 1 _ rfl
            simp only [] at k1
            clear hc hw hL ho
            exact once_run (v := .int .u64 id) (wantO_none rfl) (by simp only [execOp, e108]; go_simp) (fun u hu => by simpa using hu) (hJ.read (by decide) (by decide))
          · intro L a W hJ ho hL hc hw
            have e11 : a.eval (.tmp 11) = .int .i64 (k : Int) := ho 11 rfl
            clear hc hw hL ho
            exact once_run (v := .int .i64 (k : Int)) (wantO_none rfl) (by simp only [execOp, e11]; rfl) (fun u hu => by simpa using hu) (hJ.read (by decide) (by decide))
          · intro L a W hJ ho hL hc hw
            have e110 : a.eval (.tmp 110) = .int .i64 (k : Int) := (hw 9 rfl).2 110 rfl _ rfl
            clear hc hw hL ho
            exact once_run (v := .agg #[.int .i64 (k : Int), .int .i64 0]) (wantO_none rfl) (by simp only [execOp]; simp only [List.map_toArray, List.map_cons, List.map_nil, e110]; go_simp) (fun u hu => by simpa using hu) (hJ.read (by decide) (by decide))
          · intro L a W hJ ho hL hc hw
            have e107 : a.eval (.tmp 107) = .pointer (some ⟨C, 0, none⟩) := (hw 6 rfl).2 107 rfl _ rfl
            have e109 : a.eval (.tmp 109) = .int .u64 id := (hw 8 rfl).2 109 rfl _ rfl
            have e111 : a.eval (.tmp 111) = .agg #[.int .i64 (k : Int), .int .i64 0] := (hw 10 rfl).2 111 rfl _ rfl
            exact once_call (wantO_none rfl) rfl (args := #[.pointer (some ⟨C, 0, none⟩), .int .u64 id, .agg #[.int .i64 (k : Int), .int .i64 0]]) (by simp [e107, e109, e111]) (by go_simp) (JS.putB hJ (by omega) HU.out hL) (fun e W' h => ⟨.bool (!imHas ⟨N, K, v⟩ id), h.1, (fun u hu => by simpa using hu), h.2⟩)
          · intro L a W hJ ho hL hc hw
            have e106 : a.eval (.tmp 106) = .bool (!imHas ⟨N, K, v⟩ id) := (hw 5 rfl).2 106 rfl _ rfl
            have e112 : a.eval (.tmp 112) = .bool (!imHas ⟨N, K, v⟩ id) := (hw 11 rfl).2 112 rfl _ rfl
            clear hc hw hL ho
            exact once_run (v := .bool false) (wantO_none rfl) (by simp only [execOp, e106, e112]; go_simp) (fun u hu => by simpa using hu) (hJ.read (by decide) (by decide))
        case fin =>
          clear hst HD
          intro L gg W hJ hall hv
          have g101 : gg 101 = .pointer (some ⟨B, 0, none⟩) := hv 0 101 rfl _ rfl
          have g102 : gg 102 = .pointer (some ⟨bD, 1, none⟩) := hv 1 102 rfl _ rfl
          have g103 : gg 103 = .int .u64 id := hv 2 103 rfl _ rfl
          have g104 : gg 104 = .int .i64 (k : Int) := hv 3 104 rfl _ rfl
          have g105 : gg 105 = .agg #[.int .i64 (k : Int), .int .i64 0] := hv 4 105 rfl _ rfl
          have g106 : gg 106 = .bool (!imHas ⟨N, K, v⟩ id) := hv 5 106 rfl _ rfl
          have g107 : gg 107 = .pointer (some ⟨C, 0, none⟩) := hv 6 107 rfl _ rfl
          have g108 : gg 108 = .pointer (some ⟨bD, 1, none⟩) := hv 7 108 rfl _ rfl
          have g109 : gg 109 = .int .u64 id := hv 8 109 rfl _ rfl
          have g110 : gg 110 = .int .i64 (k : Int) := hv 9 110 rfl _ rfl
          have g111 : gg 111 = .agg #[.int .i64 (k : Int), .int .i64 0] := hv 10 111 rfl _ rfl
          have g112 : gg 112 = .bool (!imHas ⟨N, K, v⟩ id) := hv 11 112 rfl _ rfl
          have g113 : gg 113 = .bool false := hv 12 113 rfl _ rfl
          simp only [List.foldl_cons, List.foldl_nil, List.setIfInBounds_toArray, List.set_cons_succ, List.set_cons_zero, g101, g102, g103, g104, g105, g106, g107, g108, g109, g110, g111, g112, g113]
          clear g101 g102 g103 g104 g105 g106 g107 g108 g109 g110 g111 g112 g113 hv
          have h1 : TS w1 (2 * k + 2) B bs bm N C cs cm M ⟨N, L2, v2⟩ ⟨M, L2, v2⟩ [(bD, [.bool false, .int .u64 id])] W := by
            unfold JS at hJ
            rw [hall 5 (by decide), hall 11 (by decide), if_pos rfl, if_pos rfl, e1, e2] at hJ
            exact hJ
          have H5 := Lib.hid h1
          clear hJ hall h1 e1 e2
          have HT := Lib.hid (H5.out.sub (D' := []) (fun p hp => by cases hp))
          clear H5
          have hm2 : 2 * k + 2 < 100000 := by omega
          have HL1 := Lib.hid (imList_ij HT.out.a hm2)
          simp only [] at HL1
          go_wp2_with fail
          refine HL1.out.mono ?_
          rintro e w8 ⟨A1, c1, rfl, hr1, hb1⟩
          have HR1 : Hid (RdN w8 0 A1 L2) := Lib.hid (RdN.lo hr1)
          have HT2 := Lib.hid (HT.out.later hb1)
          clear hr1 hb1 HL1 HT
          have HL2 := Lib.hid (imList_ij HT2.out.b hm2)
          simp only [] at HL2
          go_wp2_with fail
          refine HL2.out.mono ?_
          rintro e w9 ⟨A2, c2, rfl, hr2, hb2⟩
          have HR2 : Hid (RdN w9 0 A2 L2) := Lib.hid (RdN.lo hr2)
          have HR3 := Lib.hid (HR1.out.below hb2)
          have HT3 := Lib.hid (HT2.out.later hb2)
          clear hr2 hb2 HL2 HT2 HR1
          have HV1 := Lib.hid (imVer_ij HT3.out.a)
          have HV2 := Lib.hid (imVer_ij HT3.out.b)
          have HLn := Lib.hid (imLen_ij HT3.out.a hm2)
          simp only [] at HV1 HV2 HLn
          go_wp2_with fail
          refine HV1.out.mono ?_
          rintro e w10 ⟨rfl, rfl⟩
          go_wp2_with fail
          refine HV2.out.mono ?_
          rintro e w10 ⟨rfl, rfl⟩
          go_wp2_with fail
          refine HLn.out.mono ?_
          rintro e w10 ⟨rfl, rfl⟩
          clear HV1 HV2 HLn
          have hlen := HT3.out.a.fit.len
          simp only [] at hlen
          go_wp2
          go_loopw [139] (fun i wr => ∃ j : Nat, j ≤ L2.length ∧ i = .int .i64 (j : Int) ∧ Drawn w9 wr) (fun i _ => L2.length - (intOf i).toNat)
          case atStart => exact ⟨0, Nat.zero_le _, rfl, Drawn.refl⟩
          case round =>
            obtain ⟨j, hj, rfl, hdr⟩ := hrel
            by_cases hjl : j < L2.length
            · obtain ⟨b1, rfl, _, hbb1, h0, h1, h2⟩ := HR3.out j _ (List.getElem?_eq_getElem hjl)
              obtain ⟨b2, rfl, _, hbb2, g0, g1, g2⟩ := HR2.out j _ (List.getElem?_eq_getElem hjl)
              rw [← hdr.cell] at h0 h1 h2 g0 g1 g2
              generalize L2[j] = z at *
              have hkl2 : (j : Int) < (L2.length : Int) := by omega
              have hk02 : (0 : Int) ≤ (j : Int) := by omega
              go_wp2
              go_quiet (fail)
              go_wp2
              go_roundw
              case rel => exact ⟨j + 1, by omega, by go_num, hdr.step _⟩
              case measure => simp [intOf]; omega
            · have hkl3 : ¬ (j : Int) < (L2.length : Int) := by omega
              go_wp2
              go_roundw
              case rel => exact ⟨k + 1, L2, v2, by omega, by go_num, HT3.out.later (hdr.below _)⟩
              case measure => simp [intOf]; omega
    · go_wp2
      go_ret
      exact ⟨rfl, HB1.out.trans ((hE.a.bel).mono HB1.out.size)⟩

end Go.Proofs.Yteiknnpoaijobaa
