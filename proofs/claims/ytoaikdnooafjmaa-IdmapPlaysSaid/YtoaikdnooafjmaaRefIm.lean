/- The document's map of ids (ganglionref22), by contract: New, Shard, Get, Size. -/
import Derived.Test.YtoaikdnooafjmaaImDo
import Derived.Test.YtoaikdnooafjmaaImOrd
import Derived.Test.YtoaikdnooafjmaaBx
import Derived.Lib.QuietBelow
namespace Go.Proofs.Ytoaikdnooafjmaa
open Go.RowKit

/-- A map of the document's, as a value, and in memory. -/
def mV (n : Nat) (A : Option Addr) (l c v : Nat) : Value := .agg #[.int .i64 (n : Int), .slice A l c, .int .i64 (v : Int)]
def RM (w : World) (V : Value) (x : IX) : Prop := ∃ A c, V = mV x.n A x.L.length c x.v ∧ RdN w 0 A x.L ∧ ∀ b o, A = some ⟨b, o, none⟩ → b < w.heap.size
theorem RM.later {w w' : World} {V : Value} {x : IX} (h : RM w V x) (hb : Below w.heap.size w w') : RM w' V x := by
  obtain ⟨A, c, e, hr, hl⟩ := h
  exact ⟨A, c, e, hr.below hb, fun b o q => Nat.lt_of_lt_of_le (hl b o q) hb.size⟩
theorem RmNew_not (v : Int) (hv : v < 1 ∨ 64 < v) (w : World) : Calls Try.prog 76 #[.int .i64 v] w fun e w' => e = .returned (.tuple #[.agg #[.int .i64 0, .slice none 0 0, .int .i64 0], .int .i64 6]) ∧ Below w.heap.size w w' := by
  have HB := Lib.hid (below_new w (.cells #[.int .i64 0, .slice none 0 0, .int .i64 0] 115))
  rcases hv with h | h
  · go_enter Try.func76, Try.ntmps76
    go_wp2
    exact bodyPost_ret (v := .tuple #[.agg #[.int .i64 0, .slice none 0 0, .int .i64 0], .int .i64 6]) (by simp [results, Try.results76, go_sem]) rfl ⟨rfl, HB.out⟩
  · have h1 : ¬ v < 1 := by omega
    go_enter Try.func76, Try.ntmps76
    go_wp2
    exact bodyPost_ret (v := .tuple #[.agg #[.int .i64 0, .slice none 0 0, .int .i64 0], .int .i64 6]) (by simp [results, Try.results76, go_sem]) rfl ⟨rfl, HB.out⟩
theorem RmNew_any (n : Nat) (h1 : 1 ≤ n) (h2 : n ≤ 64) (w : World) : Calls Try.prog 76 #[.int .i64 (n : Int)] w fun e w' => e = .returned (.tuple #[mV n none 0 0 0, .int .i64 0]) ∧ Below w.heap.size w w' := by
  have HB := Lib.hid (below_new w (.cells #[.int .i64 (n : Int), .slice none 0 0, .int .i64 0] 115))
  have k1 : ¬ (n : Int) < 1 := by omega
  have k2 : ¬ (64 : Int) < (n : Int) := by omega
  go_enter Try.func76, Try.ntmps76
  go_wp2
  exact bodyPost_ret (v := .tuple #[.agg #[.int .i64 (n : Int), .slice none 0 0, .int .i64 0], .int .i64 0]) (by simp [results, Try.results76, go_sem]) rfl ⟨rfl, HB.out⟩
theorem ref_mix_id {k : Int} (h : IsU k) (w : World) : Calls Try.prog 150 #[.int .u64 k] w fun e w' => e = .returned (.int .u64 (mixI k : Nat)) ∧ w = w' := by
  have hk := h.lt
  have e : k = (((BitVec.ofNat 64 k.toNat).toNat : Nat) : Int) := by
    rw [BitVec.toNat_ofNat]
    omega
  have := ref_Mix_any (BitVec.ofNat 64 k.toNat) w
  rw [← e] at this
  exact this
theorem ref_below_id (k : Int) (n : Nat) (hn : n ≤ 64) (w : World) : Calls Try.prog 149 #[.int .u64 (mixI k : Nat), .int .u64 (n : Int)] w fun e w' => e = .returned (.int .u64 (shI n k : Nat)) ∧ w = w' :=
  ref_Below_any (mixI k) n w (mixI_lt k) (by omega)
section
variable {w : World} {V : Value} {x : IX} {m : Nat}
set_option maxHeartbeats 1000000 in
theorem RmShard_any (h : RM w V x) (hf : IFit m x) {k : Int} (hk : IsU k) : Calls Try.prog 86 #[V, .int .u64 k] w fun e w' => e = .returned (.int .i64 (shI x.n k : Nat)) ∧ Below w.heap.size w w' := by
  obtain ⟨A, c, rfl, hr, _⟩ := h
  have hb := below_new w (.cells #[.int .i64 (x.n : Int), .slice A x.L.length c, .int .i64 (x.v : Int)] 115)
  have hx := Bx.new w [.int .i64 (x.n : Int), .slice A x.L.length c, .int .i64 (x.v : Int)] 115
  have HB := Lib.hid hb
  have hn := hf.n64
  have hs := shI_lt hf.n1 k
  have HM := Lib.hid (fun W => ref_mix_id hk W)
  have HBL := Lib.hid (fun W => ref_below_id k x.n hn W)
  unfold mV
  clear hb hr hf hk
  generalize mixI k = mk at *
  generalize shI x.n k = sk at *
  generalize x.n = n at *
  generalize x.L.length = ll at *
  generalize x.v = vv at *
  have hn1 : (n : Int) ≤ 64 := by omega
  have hn0 : (0 : Int) ≤ (n : Int) := by omega
  have hs1 : (sk : Int) ≤ 64 := by omega
  have hs0 : (0 : Int) ≤ (sk : Int) := by omega
  go_enter Try.func86, Try.ntmps86
  go_upto_region 1 with (fail)
  have x0 := hx.c 0 _ rfl
  clear hx
  generalize w.alloc (.cells #[.int .i64 (n : Int), .slice A ll c, .int .i64 (vv : Int)] 115) = W at *
  go_quiet ((first | (go_at_call 150; exact quiet_same (HM.out _)) | (go_at_call 149; exact quiet_same (HBL.out _))))
  go_wp2
  go_ret
  exact ⟨rfl, HB.out.trans (below_draws _ _ _)⟩
theorem findI_drop {L : List EntI} {k : Int} {i : Nat} (hi : i < L.length) (h : findI (L.drop i) k = findI L k) : ((L[i]).1 = k → findI L k = some (L[i]).2) ∧ ((L[i]).1 ≠ k → findI (L.drop (i + 1)) k = findI L k) := by
  rw [List.drop_eq_getElem_cons hi, findI_cons] at h
  constructor
  · intro e
    rw [if_pos e] at h
    exact h.symm
  · intro e
    rw [if_neg e] at h
    exact h
set_option maxRecDepth 100000 in
set_option maxHeartbeats 4000000 in
theorem RmGet_any (h : RM w V x) (hlen : x.L.length ≤ 100000) (k : Int) : Calls Try.prog 82 #[V, .int .u64 k] w fun e w' => e = .returned (.tuple #[.agg #[.int .i64 (imGet x k).1, .int .i64 (imGet x k).2], .bool (imHas x k)]) ∧ Below w.heap.size w w' := by
  obtain ⟨A, c, rfl, hr, _⟩ := h
  have b1 := Bx.new w [.int .i64 (x.n : Int), .slice A x.L.length c, .int .i64 (x.v : Int)] 115
  have b2 := Bx.new (w.alloc (.cells #[.int .i64 (x.n : Int), .slice A x.L.length c, .int .i64 (x.v : Int)] 115)) [.int .i64 0, .int .i64 0] 99
  have b3 := Below.next (below_new w (.cells #[.int .i64 (x.n : Int), .slice A x.L.length c, .int .i64 (x.v : Int)] 115)) (below_new _ (.cells #[.int .i64 0, .int .i64 0] 99))
  rw [World.size_alloc] at b2
  have HR := Lib.hid (hr.below b3)
  have HB2 := Lib.hid b2
  have HB3 := Lib.hid b3
  have HF : Hid (∀ r, findI x.L k = some r → imGet x k = r ∧ imHas x k = true) := Lib.hid fun r hr => ⟨by unfold imGet; rw [hr]; rfl, by unfold imHas; rw [hr]; rfl⟩
  have HN : Hid (findI x.L k = none → imGet x k = (0, 0) ∧ imHas x k = false) := Lib.hid fun hr => ⟨by unfold imGet; rw [hr]; rfl, by unfold imHas; rw [hr]; rfl⟩
  unfold mV
  clear hr b1 b2 b3
  generalize imGet x k = gr at *
  generalize imHas x k = gb at *
  generalize x.n = n at *
  generalize x.v = vv at *
  generalize x.L = L at *
  obtain ⟨ll, hll⟩ : ∃ ll, L.length = ll := ⟨_, rfl⟩
  rw [hll] at hlen
  have HLL := Lib.hid hll
  rw [hll] at HB2 HB3 HR
  rw [hll]
  clear hll
  go_enter Try.func82, Try.ntmps82
  go_upto_region 2 with (fail)
  obtain ⟨R, hR⟩ : ∃ R, w.heap.size + 1 = R := ⟨_, rfl⟩
  rw [hR] at HB2
  rw [hR]
  have HRR : Hid (w.heap.size ≤ R) := Lib.hid (by omega)
  clear hR
  generalize (w.alloc (.cells #[.int .i64 (n : Int), .slice A ll c, .int .i64 (vv : Int)] 115)).alloc (.cells #[.int .i64 0, .int .i64 0] 99) = W at *
  go_loopw [11] (fun iv wr => ∃ i : Nat, i ≤ ll ∧ iv = .int .i64 (i : Int) ∧ findI (L.drop i) k = findI L k ∧ Below W.heap.size W wr) (fun iv _ => ll - (intOf iv).toNat)
  case atStart => exact ⟨0, Nat.zero_le _, rfl, rfl, Below.refl _ _⟩
  case round =>
    obtain ⟨i, hi, rfl, hfd, hbw⟩ := hrel
    have hbx := HB2.out.below hbw
    have u0 := hbx.c 0 _ rfl
    have u1 := hbx.c 1 _ rfl
    have f0 := hbx.f 0
    have f1 := hbx.f 1
    by_cases hil : i < ll
    · have hiL : i < L.length := by rw [HLL.out]; exact hil
      obtain ⟨b, rfl, _, hb, n0, n1, n2⟩ := (HR.out.below hbw) i _ (List.getElem?_eq_getElem hiL)
      have hd := findI_drop hiL hfd
      obtain ⟨e, he⟩ : ∃ e, L[i] = e := ⟨_, rfl⟩
      rw [he] at n0 n1 n2 hd
      obtain ⟨eid, es, eg⟩ := e
      simp only at n0 n1 n2 hd
      have hii : (i : Int) < (ll : Int) := by omega
      have hi0 : (0 : Int) ≤ (i : Int) := by omega
      have HBN := Lib.hid (Below.next hbw (below_new wr (.cells #[.int .u64 eid, .int .i64 es, .int .i64 eg] 157)))
      have HBX := Lib.hid (hbx.below (below_new wr (.cells #[.int .u64 eid, .int .i64 es, .int .i64 eg] 157)))
      clear hfd he hbx hbw
      by_cases hk : eid = k
      · subst hk
        obtain ⟨rfl, rfl⟩ := HF.out _ (hd.1 rfl)
        clear hd u0 u1 f0 f1
        have u0 := HBX.out.c 0 _ rfl
        have u1 := HBX.out.c 1 _ rfl
        have f0 := HBX.out.f 0
        have f1 := HBX.out.f 1
        have HP := Lib.hid ((HBX.out.set 0 (.int .i64 es)).set 1 (.int .i64 eg))
        have HBF := Lib.hid (bl1 (b := R) (k := 1) (bl1 (b := R) (k := 0) (HB3.out.trans (HBN.out.mono HB3.out.size)) HRR.out (.int .i64 es)) HRR.out (.int .i64 eg))
        clear HBX HBN
        go_wp2
        have q0 := HP.out.c 0 _ rfl
        have q1 := HP.out.c 1 _ rfl
        exact bodyPost_ret (v := .tuple #[.agg #[.int .i64 es, .int .i64 eg], .bool true]) (by simp [results, Try.results82, go_sem, q0, q1]) rfl ⟨rfl, HBF.out⟩
      · have hk2 : (eid == k) = false := by simpa using hk
        have HD := Lib.hid (hd.2 hk)
        clear hd hk u0 u1 f0 f1 HBX
        go_wp2
        go_roundw
        case rel => exact ⟨i + 1, by omega, by go_num, HD.out, HBN.out⟩
        case measure => simp [intOf]; omega
    · obtain rfl : i = ll := by omega
      rw [← HLL.out, List.drop_length] at hfd
      obtain ⟨rfl, rfl⟩ := HN.out hfd.symm
      have HP := Lib.hid ((hbx.set 0 (.int .i64 0)).set 1 (.int .i64 0))
      have HBF := Lib.hid (bl1 (b := R) (k := 1) (bl1 (b := R) (k := 0) (HB3.out.trans (hbw.mono HB3.out.size)) HRR.out (.int .i64 0)) HRR.out (.int .i64 0))
      clear hfd hbw hbx
      go_wp2
      have q0 := HP.out.c 0 _ rfl
      have q1 := HP.out.c 1 _ rfl
      exact bodyPost_ret (v := .tuple #[.agg #[.int .i64 0, .int .i64 0], .bool false]) (by simp [results, Try.results82, go_sem, q0, q1]) rfl ⟨rfl, HBF.out⟩
/-- How many are of a shard. -/
def cntZ (n : Nat) (L : List EntI) (s : Int) : Nat := L.countP fun e => ((shI n e.1 : Nat) : Int) == s
theorem cntZ_take (n : Nat) (L : List EntI) (s : Int) {i : Nat} (hi : i < L.length) : cntZ n (L.take (i + 1)) s = cntZ n (L.take i) s + if ((shI n (L[i]).1 : Nat) : Int) = s then 1 else 0 := by
  unfold cntZ
  rw [List.take_succ_eq_append_getElem hi]
  simp only [List.countP_append, List.countP_singleton, beq_iff_eq]
theorem cntZ_le (n : Nat) (L : List EntI) (s : Int) (i : Nat) : cntZ n (L.take i) s ≤ i := Nat.le_trans List.countP_le_length (by rw [List.length_take]; omega)
theorem cntZ_in (n : Nat) (L : List EntI) (i : Nat) : cntZ n L (i : Int) = cntI n L i := by
  unfold cntZ cntI
  congr 1
  funext e
  rw [Bool.eq_iff_iff]
  simp only [beq_iff_eq]
  omega
theorem cntZ_out {n : Nat} (h1 : 1 ≤ n) (L : List EntI) {s : Int} (hs : s < 0 ∨ (n : Int) ≤ s) : cntZ n L s = 0 := by
  unfold cntZ
  rw [List.countP_eq_zero]
  intro e _
  have := shI_lt h1 e.1
  simp
  omega
set_option maxRecDepth 100000 in
set_option maxHeartbeats 4000000 in
theorem RmSize_any (h : RM w V x) (hf : IFit m x) (hm : m ≤ 100000) (s : Int) : Calls Try.prog 88 #[V, .int .i64 s] w fun e w' => e = .returned (.int .i64 (cntZ x.n x.L s : Nat)) ∧ Below w.heap.size w w' := by
  have h' := h
  obtain ⟨A, c, rfl, hr, _⟩ := h
  have b1 := Bx.new w [.int .i64 (x.n : Int), .slice A x.L.length c, .int .i64 (x.v : Int)] 115
  have b3 := below_new w (.cells #[.int .i64 (x.n : Int), .slice A x.L.length c, .int .i64 (x.v : Int)] 115)
  have HR := Lib.hid (hr.below b3)
  have HB1 := Lib.hid b1
  have HB3 := Lib.hid b3
  have HSH := Lib.hid (fun k (hk : IsU k) W (hb : Below w.heap.size w W) => RmShard_any (h'.later hb) hf hk)
  have HU := Lib.hid hf.ids
  have hlen : x.L.length ≤ 100000 := Nat.le_trans hf.len hm
  unfold mV at *
  clear hr b1 b3 h' hf
  generalize hll : x.L.length = ll at *
  have HLL := Lib.hid hll
  generalize x.L = L at *
  generalize x.n = n at *
  generalize x.v = vv at *
  clear hll
  go_enter Try.func88, Try.ntmps88
  go_upto_region 3 with (fail)
  obtain ⟨P, hP⟩ : ∃ P, w.heap.size = P := ⟨_, rfl⟩
  rw [hP] at HB1
  rw [hP]
  clear hP
  generalize w.alloc (.cells #[.int .i64 (n : Int), .slice A ll c, .int .i64 (vv : Int)] 115) = W at *
  go_loopw [5, 11] (fun cv iv wr => ∃ i : Nat, i ≤ ll ∧ iv = .int .i64 (i : Int) ∧ cv = .int .i64 ((cntZ n (L.take i) s : Nat) : Int) ∧ Below W.heap.size W wr) (fun _ iv _ => ll - (intOf iv).toNat)
  case atStart => exact ⟨0, Nat.zero_le _, rfl, rfl, Below.refl _ _⟩
  case round =>
    obtain ⟨i, hi, rfl, rfl, hbw⟩ := hrel
    by_cases hil : i < ll
    · have hiL : i < L.length := by rw [HLL.out]; exact hil
      obtain ⟨b, rfl, _, hb, n0, n1, n2⟩ := (HR.out.below hbw) i _ (List.getElem?_eq_getElem hiL)
      have hu := HU.out _ (List.getElem_mem hiL)
      have HT := Lib.hid (cntZ_take n L s hiL)
      have hle := cntZ_le n L s i
      obtain ⟨e, he⟩ : ∃ e, L[i] = e := ⟨_, rfl⟩
      rw [he] at n0 n1 n2 hu HT
      obtain ⟨eid, es, eg⟩ := e
      simp only at n0 n1 n2 hu HT
      have hii : (i : Int) < (ll : Int) := by omega
      have hi0 : (0 : Int) ≤ (i : Int) := by omega
      have hbn := Below.next hbw (below_new wr (.cells #[.int .u64 eid, .int .i64 es, .int .i64 eg] 157))
      have hbx := (HB1.out.below hbw).below (below_new wr (.cells #[.int .u64 eid, .int .i64 es, .int .i64 eg] 157))
      have HBN := Lib.hid hbn
      have HC := Lib.hid (HSH.out eid hu _ (HB3.out.trans (hbn.mono HB3.out.size)))
      generalize shI n eid = sk at *
      generalize cntZ n (L.take i) s = cn at *
      have hcn : (cn : Int) ≤ 100000 := by omega
      clear he hbw hbn hu hle
      have hy := Bx.new wr [.int .u64 eid, .int .i64 es, .int .i64 eg] 157
      go_upto_region 5 with (fail)
      obtain ⟨Y, hY⟩ : ∃ Y, wr.heap.size = Y := ⟨_, rfl⟩
      rw [hY] at hy
      rw [hY]
      clear hY
      generalize wr.alloc (.cells #[.int .u64 eid, .int .i64 es, .int .i64 eg] 157) = W2 at *
      clear n0 n1 n2
      have x0 := hbx.c 0 _ rfl
      have x1 := hbx.c 1 _ rfl
      have x2 := hbx.c 2 _ rfl
      have y0 := hy.c 0 _ rfl
      clear hbx hy
      go_wp2_with fail
      refine HC.out.mono ?_
      rintro e w3 ⟨rfl, hb3⟩
      have HBF := Lib.hid (Below.next HBN.out hb3)
      clear hb3 HC x0 x1 x2 y0 HBN
      by_cases hs : (sk : Int) = s
      · subst hs
        have HT2 := Lib.hid (HT.out.trans (by rw [if_pos rfl]))
        clear HT
        go_wp2
        go_roundw
        case rel => exact ⟨i + 1, by omega, by go_num, by rw [HT2.out]; go_num, HBF.out⟩
        case measure => simp [intOf]; omega
      · have hs2 : ((sk : Int) == s) = false := by simpa using hs
        have HT2 := Lib.hid (HT.out.trans (by rw [if_neg hs]))
        clear HT hs
        go_wp2
        go_roundw
        case rel => exact ⟨i + 1, by omega, by go_num, by rw [HT2.out]; rfl, HBF.out⟩
        case measure => simp [intOf]; omega
    · obtain rfl : i = ll := by omega
      have HE : Hid (cntZ n (L.take i) s = cntZ n L s) := Lib.hid (by rw [← HLL.out, List.take_length])
      have HBF := Lib.hid (HB3.out.trans (hbw.mono HB3.out.size))
      clear hbw
      go_wp2
      go_ret
      exact ⟨ret_int (by rw [HE.out]), HBF.out⟩
end

end Go.Proofs.Ytoaikdnooafjmaa
