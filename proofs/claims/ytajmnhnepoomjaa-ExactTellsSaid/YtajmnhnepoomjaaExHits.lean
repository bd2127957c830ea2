/- The hits of items that count, one by one (exact.hits): the iterator's contract. -/
import Derived.Test.YtajmnhnepoomjaaExPlain
import Derived.Test.YtajmnhnepoomjaaTagHas
import Derived.Test.YtajmnhnepoomjaaHeadIn
import Derived.Test.YtajmnhnepoomjaaVecIter
import Derived.Test.YtajmnhnepoomjaaRefPush
namespace Go.Proofs.Ytajmnhnepoomjaa
open Go.RowKit Go.Shelf
attribute [local go_sem] Oper.semAt_some wide_fn wide_depth

def hitV (h : HitT) : Value := .agg #[.int .u64 h.1, .int .u64 h.2]
def htAt (L : List HitT) (k : Nat) : HitT := L.getD k (0, 0)
theorem htAt_lt {L : List HitT} {k : Nat} (h : k < L.length) : L[k]? = some (htAt L k) := by
  unfold htAt
  rw [List.getD_eq_getElem?_getD, List.getElem?_eq_getElem h]
  rfl
/-- How many of the first k count. -/
def cntK (m : Int) (its : List ItT) (k : Nat) : Nat := ((its.take k).filter (tagsOk m)).length
theorem cntK_next {m : Int} {its : List ItT} {k : Nat} (h : k < its.length) : cntK m its (k + 1) = cntK m its k + (if tagsOk m (itAt its k) = true then 1 else 0) := by
  have e := itAt_lt h
  rw [List.getElem?_eq_getElem h] at e
  injection e with e
  unfold cntK
  rw [List.take_succ_eq_append_getElem h, List.filter_append, List.length_append, e]
  by_cases h2 : tagsOk m (itAt its k) = true <;> simp [h2]
theorem cntK_all (q : List Int) (m : Int) (its : List ItT) : cntK m its its.length = (hitsL q m its).length := by
  unfold cntK hitsL
  rw [List.take_length, List.length_map]
theorem cntK_at {q : List Int} {m : Int} {its : List ItT} {k : Nat} (h : k < its.length) (ht : tagsOk m (itAt its k) = true) : cntK m its k < (hitsL q m its).length ∧ htAt (hitsL q m its) (cntK m its k) = hitOf q (itAt its k) := by
  have e := itAt_lt h
  rw [List.getElem?_eq_getElem h] at e
  injection e with e
  have hs : its = its.take k ++ itAt its k :: its.drop (k + 1) := by
    rw [← e, ← List.drop_eq_getElem_cons h, List.take_append_drop]
  have hh : hitsL q m its = ((its.take k).filter (tagsOk m)).map (hitOf q) ++ hitOf q (itAt its k) :: ((its.drop (k + 1)).filter (tagsOk m)).map (hitOf q) := by
    unfold hitsL
    conv => lhs; rw [hs]
    rw [List.filter_append, List.filter_cons_of_pos ht, List.map_append, List.map_cons]
  have hl : cntK m its k = (((its.take k).filter (tagsOk m)).map (hitOf q)).length := by rw [List.length_map]; rfl
  rw [hh, hl]
  refine ⟨by simp, ?_⟩
  unfold htAt
  rw [List.getD_eq_getElem?_getD, List.getElem?_append_right (Nat.le_refl _), Nat.sub_self]
  rfl

set_option maxHeartbeats 400000 in
theorem hits_any (A : Option Addr) (la ca : Nat) (Q : Option Addr) (lq cq : Nat) (m : Int) (w : World) :
    Calls Try.prog 63 #[.slice A la ca, .slice Q lq cq, .int .u64 m] w fun e w' => e = .returned (.func (.func 109) #[] #[.pointer (some ⟨w.heap.size, 0, none⟩), .pointer (some ⟨w.heap.size + 1 + 1, 0, none⟩), .pointer (some ⟨w.heap.size + 1, 0, none⟩)]) ∧ w' = ((w.alloc (.cells #[.slice A la ca] 22)).alloc (.cells #[.slice Q lq cq] 23)).alloc (.cells #[.int .u64 m] 24) := by
  go_enter Try.func63, Try.ntmps63
  go_wp2
  go_ret
  exact ⟨by simp, rfl⟩

theorem kp_all {n₀ B2 B3 : Nat} {V V' : World} (h : Below V.heap.size V V') (hn : n₀ ≤ V.heap.size) (h2 : B2 < V.heap.size) (h3 : B3 < V.heap.size) : KpP n₀ B2 B3 V V' := ⟨h.mono hn, h.cell (p := ⟨B2, 0, none⟩) h2, h.cell (p := ⟨B3, 0, none⟩) h3⟩
theorem kp_below {n₀ B2 B3 : Nat} {V V' : World} (h : Below n₀ V V') (h2 : B2 < n₀) (h3 : B3 < n₀) : KpP n₀ B2 B3 V V' := ⟨h, h.cell (p := ⟨B2, 0, none⟩) h2, h.cell (p := ⟨B3, 0, none⟩) h3⟩
set_option maxRecDepth 100000 in
set_option maxHeartbeats 2000000 in
theorem hits1_in (m : Nat) (l n₀ B1 B2 B3 B0 : Nat) (A : Option Addr) (its : List ItT) (ca : Nat) (Q : Option Addr) (q : List Int) (cq : Nat) (mask : Int) (hl : its.length ≤ 3074457345618258602) (J Jx : List (Pl (hitsL q mask its).length) → World → Prop) (hJ : AbidesFrom B0 J)
    (hY : ∀ pre x W, J pre W → pre.length < (hitsL q mask its).length → YieldAt Fence.wide (m - 1) Try.prog l #[hitV (htAt (hitsL q mask its) x.1)] W fun e W' =>
      (e = .returned (.bool true) ∧ J (pre ++ [x]) W' ∧ KpP n₀ B2 B3 W W') ∨ (e = .returned (.bool false) ∧ Jx (pre ++ [x]) W'))
    (W : World) (hn : n₀ ≤ W.heap.size) (hA : ItemsAt W n₀ A its) (hQ : VecB W n₀ Q q) (hb2 : B2 < W.heap.size) (hb3 : B3 < W.heap.size) (h1 : W.cell? ⟨B1, 0, none⟩ = some (.slice A its.length ca)) (h2 : W.cell? ⟨B2, 0, none⟩ = some (.int .u64 mask)) (h3 : W.cell? ⟨B3, 0, none⟩ = some (.slice Q q.length cq)) (h0 : J [] W) :
    CallsIn Fence.wide m Try.prog 109 #[.func (.yield l) #[] #[], .pointer (some ⟨B1, 0, none⟩), .pointer (some ⟨B2, 0, none⟩), .pointer (some ⟨B3, 0, none⟩)] W fun e W' => (∃ v, e = .returned v) ∧
      ((∃ pre, UpTo (hitsL q mask its).length pre ∧ J pre W') ∨ (∃ pre, (∃ k, k ≤ (hitsL q mask its).length ∧ UpTo k pre) ∧ Jx pre W')) := by
  have hmix : Try.prog.follows .mixedOrders = true := by kernel_rfl
  refine callsIn_of_wp Try.func109 rfl trivial ?_ rfl
  simp only [Try.ntmps109, List.size_toArray, List.length_cons, List.length_nil, Nat.reduceAdd, Nat.reduceSub, Array.replicate_succ, Array.replicate_zero, List.push_toArray, List.append_toArray, List.nil_append, List.cons_append]
  have HC := Lib.hid (cntK_all q mask its)
  gi_wp2
  gi_loopw [9] (fun i wr => ∃ (k : Nat) (pre : List (Pl (hitsL q mask its).length)), k ≤ its.length ∧ i = .int .i64 k ∧ Hid (UpTo (cntK mask its k) pre) ∧ J pre wr ∧ Hid (ItemsAt wr n₀ A its) ∧ Hid (VecB wr n₀ Q q) ∧ Hid (KpP n₀ B2 B3 W wr) ∧ n₀ ≤ wr.heap.size)
    (fun i _ => its.length - (intOf i).toNat)
  case atStart => exact ⟨0, [], Nat.zero_le _, rfl, by simpa [Hid, cntK] using UpTo.nil, h0, hA, hQ, ⟨Below.refl _ _, rfl, rfl⟩, hn⟩
  case round =>
    clear h0 hA hQ
    obtain ⟨k, pre, hk, rfl, HU, hJs, HA, HQ, HB, hn2⟩ := hrel
    by_cases hlt : k < its.length
    · have hkl : (k : Int) < (its.length : Int) := by omega
      have hk0 : (0 : Int) ≤ (k : Int) := by omega
      obtain ⟨⟨b, off, rfl, hb, c0, c1, c2⟩, hZ⟩ := HA.out k _ (itAt_lt hlt)
      have HN := Lib.hid (cntK_next (m := mask) hlt)
      have HAT := Lib.hid (fun ht => cntK_at (q := q) (m := mask) hlt ht)
      have e2 := HB.out.2.1.trans h2
      have q2 := Nat.lt_of_lt_of_le hb2 HB.out.1.size
      have q3 := Nat.lt_of_lt_of_le hb3 HB.out.1.size
      have e3 := HB.out.2.2.trans h3
      unfold tagsOk at HN HAT
      generalize itAt its k = z at *
      obtain ⟨id, ZA, zv, zc, tg⟩ := z
      simp only at c0 c1 c2 hZ HN HAT
      have hbX := below_new3 wr (.cells #[.int .u64 id, .slice ZA zv.length zc, .int .u64 tg] 36)
      have HBX := Lib.hid hbX
      have HJX := Lib.hid (hJ _ _ _ none hJs (World.grownBy_alloc wr (.cells #[.int .u64 id, .slice ZA zv.length zc, .int .u64 tg] 36) none) (fun r e => by cases e))
      have d0 : (wr.alloc (.cells #[.int .u64 id, .slice ZA zv.length zc, .int .u64 tg] 36)).cell? ⟨wr.heap.size, 0, none⟩ = some (.int .u64 id) := by go_cell
      have d1 : (wr.alloc (.cells #[.int .u64 id, .slice ZA zv.length zc, .int .u64 tg] 36)).cell? ⟨wr.heap.size, 1, none⟩ = some (.slice ZA zv.length zc) := by go_cell
      have d2 : (wr.alloc (.cells #[.int .u64 id, .slice ZA zv.length zc, .int .u64 tg] 36)).cell? ⟨wr.heap.size, 2, none⟩ = some (.int .u64 tg) := by go_cell
      have d3 := (hbX.cell (p := ⟨B2, 0, none⟩) q2).trans e2
      have d4 := (hbX.cell (p := ⟨B3, 0, none⟩) q3).trans e3
      have hDX : wr.heap.size < (wr.alloc (.cells #[.int .u64 id, .slice ZA zv.length zc, .int .u64 tg] 36)).heap.size := by simp
      have HVQ := Lib.hid (((HQ.out.more hn2).below hbX).more hbX.size)
      have HVZ := Lib.hid (((hZ.more hn2).below hbX).more hbX.size)
      have hn3 := Nat.le_trans hn2 hbX.size
      have HAX := Lib.hid (HA.out.below (hbX.mono hn2))
      have HQX := Lib.hid (HQ.out.below (hbX.mono hn2))
      have HBW := Lib.hid (kpP_t HB.out (kp_all hbX hn2 q2 q3))
      have q4 := Nat.lt_of_lt_of_le q2 hbX.size
      have q5 := Nat.lt_of_lt_of_le q3 hbX.size
      clear hbX hJs HA HQ HB hZ e2 e3 q2 q3
      obtain ⟨tk, htk⟩ : ∃ t, (bits .and .u64 tg mask == mask) = t := ⟨_, rfl⟩
      rw [htk] at HN HAT
      gi_wp2
      clear c0 c1 c2
      generalize wr.alloc (.cells #[.int .u64 id, .slice ZA zv.length zc, .int .u64 tg] 36) = X at *
      generalize wr.heap.size = D at *
      cases tk
      · gi_big_quiet_th ((gi_at_call 82; exact CallsIn.quiet_of_same (callsIn_wide.2 ((tagHas_any _ _ _).mono fun e w' h => ⟨by rw [h.1, htk], h.2.symm⟩))))
        have HB9 := Lib.hid (below_draws X nq n₀)
        have HJ9 := Lib.hid (hJ _ _ _ none HJX.out (show World.grownBy X (X.drewN nq) none from ⟨rfl, rfl, rfl, Nat.le_refl _, fun _ _ _ => rfl⟩) (fun r e => by cases e))
        gi_wp2
        go_roundw
        case rel => exact ⟨k + 1, pre, by omega, by go_num, by rw [HN.out]; exact HU.out, HJ9.out, HAX.out.below HB9.out, HQX.out.below HB9.out, kpP_t HBW.out (kp_all (below_draws X nq X.heap.size) hn3 q4 q5), hn3⟩
        case measure => simp [intOf]; omega
      · obtain ⟨hcl, hce⟩ := HAT.out rfl
        have hdd : satN (distN zv q (max zv.length q.length)) = distI q ⟨id, ZA, zv, zc, tg⟩ := by
          unfold distI
          rw [distN_comm, Nat.max_comm]
        have HYY : Hid (∀ W2, Below X.heap.size X W2 → ∃ fn tmps assign body, (Instr.yield l #[.agg #[.int .u64 (distI q ⟨id, ZA, zv, zc, tg⟩), .int .u64 id]]).run Try.prog W2 = .ok (.round l fn tmps assign body) W2 ∧ RoundIn Fence.wide (m - 1) Try.prog l fn tmps assign body W2 fun e W3 => ∃ b, e = .returned (.bool b) ∧ ((b = true ∧ J (pre ++ [⟨cntK mask its k, hcl⟩]) W3 ∧ KpP n₀ B2 B3 W2 W3) ∨ (b = false ∧ Jx (pre ++ [⟨cntK mask its k, hcl⟩]) W3))) := Lib.hid fun W2 hb => by
          obtain ⟨fn, tmps, assign, body, hyl, hR⟩ := hY pre ⟨cntK mask its k, hcl⟩ W2 (hJ _ _ _ none HJX.out ⟨hb.os, hb.tape, hb.output, hb.size, fun k hk _ => hb.block k hk⟩ (fun r e => by cases e)) (by rw [HU.out.len]; exact hcl)
          simp only [hce] at hyl
          refine ⟨fn, tmps, assign, body, hyl, hR.mono fun e W' h => ?_⟩
          rcases h with ⟨h1, h2, h3⟩ | ⟨h1, h2⟩
          · exact ⟨true, h1, .inl ⟨rfl, h2, h3⟩⟩
          · exact ⟨false, h1, .inr ⟨rfl, h2⟩⟩
        have HDT : Hid (∀ W2, Below X.heap.size X W2 → Calls Try.prog 21 #[.slice ZA zv.length zc, .slice Q q.length cq] W2 fun e w' => e = .returned (.int .u64 (distI q ⟨id, ZA, zv, zc, tg⟩)) ∧ Below W2.heap.size W2 w') := Lib.hid fun W2 hb => (VecB.dist (HVZ.out.below hb) (HVQ.out.below hb) hb.size zc cq).mono fun _ _ ⟨he, h2⟩ => ⟨by rw [he, hdd], h2⟩
        clear hdd hY HJX hJ
        generalize distI q ⟨id, ZA, zv, zc, tg⟩ = dd at *
        have hDX' : ∀ W2, Below X.heap.size { X with drawn := X.drawn + 1 } W2 → Below X.heap.size X W2 := fun W2 hb => ⟨hb.os, hb.tape, hb.output, hb.size, hb.block⟩
        have hbX3 := q4
        have hbX4 := q5
        refine region_headIn 30 13 hmix rfl (VL [some (.pointer (some ⟨D, 2, none⟩)), some (.int .u64 tg), some (.int .u64 mask), some (.bool true), some (.bool true), some (.func (.yield l) #[] #[]), some (.pointer (some ⟨D, 1, none⟩)), some (.slice ZA zv.length zc), some (.slice Q q.length cq), some (.int .u64 dd), some (.pointer (some ⟨D, 0, none⟩)), some (.int .u64 id), some (.agg #[.int .u64 dd, .int .u64 id])]) (VL_later _) (by kernel_rfl) (by decide) (by kernel_rfl) (by kernel_rfl) ?steps ?fin
        case steps =>
          refine ⟨?_, ?_, ?_, ?_, ?_, ?_, ?_, ?_, ?_, ?_, ?_, ?_, ?_, trivial⟩
          · intro a W hb ho hg
            have e : a.eval (.tmp 6) = .pointer (some ⟨D, 0, none⟩) := ho 6 rfl
            exact ⟨want_none rfl, in_run (v := .pointer (some ⟨D, 2, none⟩)) (by simp only [execOp, e]; go_simp) (fun u hu => by simpa using hu)⟩
          · intro a W hb ho hg
            have e : a.eval (.tmp 13) = .pointer (some ⟨D, 2, none⟩) := hg 0 13 rfl rfl _ rfl
            have c := ((hDX' W hb).cell (p := ⟨D, 2, none⟩) hDX).trans d2
            exact ⟨want_none rfl, in_run (v := .int .u64 tg) (by simp only [execOp, e]; go_simp) (fun u hu => by simpa using hu)⟩
          · intro a W hb ho hg
            have e : a.eval (.tmp 2) = .pointer (some ⟨B2, 0, none⟩) := ho 2 rfl
            have c := ((hDX' W hb).cell (p := ⟨B2, 0, none⟩) hbX3).trans d3
            exact ⟨want_none rfl, in_run (v := .int .u64 mask) (by simp only [execOp, e]; go_simp) (fun u hu => by simpa using hu)⟩
          · intro a W hb ho hg
            have e : a.eval (.tmp 14) = .int .u64 tg := hg 1 14 rfl rfl _ rfl
            have f : a.eval (.tmp 15) = .int .u64 mask := hg 2 15 rfl rfl _ rfl
            exact ⟨want_none rfl, in_call rfl (args := #[.int .u64 tg, .int .u64 mask]) (by simp [e, f]) (by go_simp) (tagHas_any tg mask W) (fun e W' h => ⟨.bool true, by rw [h.1, htk], h.2 ▸ Below.refl _ _, fun u hu => by simpa using hu⟩)⟩
          · intro a W hb ho hg
            have e : a.eval (.tmp 16) = .bool true := hg 3 16 rfl rfl _ rfl
            exact ⟨want_none rfl, in_run (v := .bool true) (by simp only [execOp, e]; rfl) (fun u hu => by simpa using hu)⟩
          · intro a W hb ho hg
            have eg : a.eval (.tmp 17) = .bool true := hg 4 17 rfl rfl _ rfl
            have e : a.eval (.tmp 0) = .func (.yield l) #[] #[] := ho 0 rfl
            exact ⟨want_some rfl rfl eg, in_run (v := .func (.yield l) #[] #[]) (by simp only [execOp, e]; rfl) (fun u hu => by simpa using hu)⟩
          · intro a W hb ho hg
            have eg : a.eval (.tmp 17) = .bool true := hg 4 17 rfl rfl _ rfl
            have e : a.eval (.tmp 6) = .pointer (some ⟨D, 0, none⟩) := ho 6 rfl
            exact ⟨want_some rfl rfl eg, in_run (v := .pointer (some ⟨D, 1, none⟩)) (by simp only [execOp, e]; go_simp) (fun u hu => by simpa using hu)⟩
          · intro a W hb ho hg
            have eg : a.eval (.tmp 17) = .bool true := hg 4 17 rfl rfl _ rfl
            have e : a.eval (.tmp 19) = .pointer (some ⟨D, 1, none⟩) := hg 6 19 rfl rfl _ rfl
            have c := ((hDX' W hb).cell (p := ⟨D, 1, none⟩) hDX).trans d1
            exact ⟨want_some rfl rfl eg, in_run (v := .slice ZA zv.length zc) (by simp only [execOp, e]; go_simp) (fun u hu => by simpa using hu)⟩
          · intro a W hb ho hg
            have eg : a.eval (.tmp 17) = .bool true := hg 4 17 rfl rfl _ rfl
            have e : a.eval (.tmp 3) = .pointer (some ⟨B3, 0, none⟩) := ho 3 rfl
            have c := ((hDX' W hb).cell (p := ⟨B3, 0, none⟩) hbX4).trans d4
            exact ⟨want_some rfl rfl eg, in_run (v := .slice Q q.length cq) (by simp only [execOp, e]; go_simp) (fun u hu => by simpa using hu)⟩
          · intro a W hb ho hg
            have eg : a.eval (.tmp 17) = .bool true := hg 4 17 rfl rfl _ rfl
            have e : a.eval (.tmp 20) = .slice ZA zv.length zc := hg 7 20 rfl rfl _ rfl
            have f : a.eval (.tmp 21) = .slice Q q.length cq := hg 8 21 rfl rfl _ rfl
            exact ⟨want_some rfl rfl eg, in_call rfl (args := #[.slice ZA zv.length zc, .slice Q q.length cq]) (by simp [e, f]) (by go_simp) (HDT.out W (hDX' W hb)) (fun e W' h => ⟨.int .u64 dd, h.1, h.2, fun u hu => by simpa using hu⟩)⟩
          · intro a W hb ho hg
            have eg : a.eval (.tmp 17) = .bool true := hg 4 17 rfl rfl _ rfl
            have e : a.eval (.tmp 6) = .pointer (some ⟨D, 0, none⟩) := ho 6 rfl
            exact ⟨want_some rfl rfl eg, in_run (v := .pointer (some ⟨D, 0, none⟩)) (by simp only [execOp, e]; go_simp) (fun u hu => by simpa using hu)⟩
          · intro a W hb ho hg
            have eg : a.eval (.tmp 17) = .bool true := hg 4 17 rfl rfl _ rfl
            have e : a.eval (.tmp 23) = .pointer (some ⟨D, 0, none⟩) := hg 10 23 rfl rfl _ rfl
            have c := ((hDX' W hb).cell (p := ⟨D, 0, none⟩) hDX).trans d0
            exact ⟨want_some rfl rfl eg, in_run (v := .int .u64 id) (by simp only [execOp, e]; go_simp) (fun u hu => by simpa using hu)⟩
          · intro a W hb ho hg
            have eg : a.eval (.tmp 17) = .bool true := hg 4 17 rfl rfl _ rfl
            have e : a.eval (.tmp 22) = .int .u64 dd := hg 9 22 rfl rfl _ rfl
            have f : a.eval (.tmp 24) = .int .u64 id := hg 11 24 rfl rfl _ rfl
            exact ⟨want_some rfl rfl eg, in_run (v := .agg #[.int .u64 dd, .int .u64 id]) (by have e' := eval_get e; have f' := eval_get f; simp only [execOp]; go_simp) (fun u hu => by simpa using hu)⟩
        case fin =>
          intro a' W2 inv
          have hbW := hDX' W2 inv.hb
          obtain ⟨fn', tmps', assign, body, hyl, hR⟩ := HYY.out W2 hbW
          have e17 : a'.eval (.tmp 17) = .bool true := inv.val 4 _ 17 rfl rfl rfl _ rfl
          have e18 : a'.eval (.tmp 18) = .func (.yield l) #[] #[] := inv.val 5 _ 18 rfl rfl rfl _ rfl
          have e25 : a'.eval (.tmp 25) = .agg #[.int .u64 dd, .int .u64 id] := inv.val 12 _ 25 rfl rfl rfl _ rfl
          have HTS : Hid (a'.tmps.size = 30) := inv.tsz
          have e18' := eval_get e18
          have e25' := eval_get e25
          refine tail_one (k := 13) (fuel := 2) (by kernel_rfl) rfl (want_some rfl rfl e17) ?_
          refine in_round (l := l) (by simp only [execOp]; go_simp) hR ?_
          rintro e W3 ⟨b, rfl, hb⟩
          refine ⟨.bool b, rfl, ?_⟩
          have s17 : (a'.put (some 26) (.bool b)).eval (.tmp 17) = .bool true := by rw [eval_put _ _ _ _ (by have := HTS.out; omega), if_neg (by decide)]; exact e17
          have s26 : (a'.put (some 26) (.bool b)).eval (.tmp 26) = .bool b := by rw [eval_put _ _ _ _ (by have := HTS.out; omega), if_pos rfl]
          refine tail_one (k := 14) (fuel := 1) (by kernel_rfl) rfl (want_some rfl rfl s17) ?_
          refine in_not rfl s26 ?_
          have t17 : ((a'.put (some 26) (.bool b)).put (some 27) (.bool (!b))).eval (.tmp 17) = .bool true := by rw [eval_put _ _ _ _ (by rw [put_size]; have := HTS.out; omega), if_neg (by decide)]; exact s17
          have t27 : ((a'.put (some 26) (.bool b)).put (some 27) (.bool (!b))).eval (.tmp 27) = .bool (!b) := by rw [eval_put _ _ _ _ (by rw [put_size]; have := HTS.out; omega), if_pos rfl]
          refine tail_one (k := 15) (fuel := 0) (by kernel_rfl) rfl (want_none rfl) ?_
          refine in_pick (v := .bool (!b)) rfl t17 (fun _ => t27) (fun h => by cases h) ?_
          refine tail_end (by kernel_rfl) ?_
          obtain ⟨g, hfr, hg⟩ := inv.frame [13, 14, 15, 16, 17, 18, 19, 20, 21, 22, 23, 24, 25, 26, 27, 28] rfl
          rw [hfr]
          have HB9 := Lib.hid hbW
          clear hg hfr t17 t27 s17 s26 e17 e18 e25 e18' e25' HTS hyl hR inv hbW
          refine ‹∀ (a : Act) (w : World), Code.wpIn Fence.wide m Try.prog _ _ a w → _› _ W3 ?_
          simp only [Act.put, List.foldl_cons, List.foldl_nil, List.setIfInBounds_toArray, List.set_cons_succ, List.set_cons_zero]
          rcases hb with ⟨rfl, hJ3, hk3⟩ | ⟨rfl, hJx3⟩
          · have HN3 := Lib.hid ((HB9.out.mono hn3).trans hk3.1)
            have HK3 := Lib.hid (kpP_t HBW.out (kpP_t (kp_all HB9.out hn3 q4 q5) hk3))
            have hce1 : cntK mask its k + 1 = cntK mask its (k + 1) := by have := HN.out; simp at this; omega
            have HU3 : Hid (UpTo (cntK mask its (k + 1)) (pre ++ [⟨cntK mask its k, hcl⟩])) := hce1 ▸ HU.out.snoc hcl
            clear hce1
            gi_wp2
            go_roundw
            case rel => exact ⟨k + 1, pre ++ [⟨cntK mask its k, hcl⟩], by omega, by go_num, HU3, hJ3, HAX.out.below HN3.out, HQX.out.below HN3.out, HK3.out, Nat.le_trans hn3 HN3.out.size⟩
            case measure => simp [intOf]; omega
          · gi_wp2
            refine bodyPost_ret (results_none rfl _ _ _) rfl ?_
            exact ⟨⟨_, rfl⟩, .inr ⟨pre ++ [⟨cntK mask its k, hcl⟩], ⟨cntK mask its k + 1, hcl, HU.out.snoc hcl⟩, hJx3⟩⟩
    · obtain rfl : k = its.length := by omega
      have HU2 : Hid (UpTo (hitsL q mask its).length pre) := Eq.mp (congrArg (fun n : Nat => UpTo n pre) HC.out) HU.out
      gi_wp2
      go_end0
      exact ⟨⟨_, rfl⟩, .inl ⟨pre, HU2.out, hJs⟩⟩

/-- exact.hits hands back a value that goes through the hits of the items that count. -/
theorem hits_stops (m n₀ B1 B2 B3 : Nat) (A : Option Addr) (its : List ItT) (ca : Nat) (Q : Option Addr) (q : List Int) (cq : Nat) (mask : Int) (hl : its.length ≤ 3074457345618258602)
    (w : World) (hn₀ : n₀ ≤ w.heap.size) (hA : ItemsAt w n₀ A its) (hQ : VecB w n₀ Q q) (hb1 : B1 < w.heap.size) (hb2 : B2 < w.heap.size) (hb3 : B3 < w.heap.size) (h1 : w.cell? ⟨B1, 0, none⟩ = some (.slice A its.length ca)) (h2 : w.cell? ⟨B2, 0, none⟩ = some (.int .u64 mask)) (h3 : w.cell? ⟨B3, 0, none⟩ = some (.slice Q q.length cq)) :
    SeqStopsK Fence.wide m Try.prog 109 #[.pointer (some ⟨B1, 0, none⟩), .pointer (some ⟨B2, 0, none⟩), .pointer (some ⟨B3, 0, none⟩)] (fun x : Pl (hitsL q mask its).length => #[hitV (htAt (hitsL q mask its) x.1)]) (KpP n₀ B2 B3)
      (fun pre => UpTo (hitsL q mask its).length pre) (fun pre => ∃ k, k ≤ (hitsL q mask its).length ∧ UpTo k pre) (hitsL q mask its).length w := fun l J Jx W hW hJ _ hY h0 =>
  hits1_in m l n₀ B1 B2 B3 W.heap.size A its ca Q q cq mask hl J Jx hJ hY W (Nat.le_trans hn₀ hW.size) (hA.below (hW.mono hn₀)) (hQ.below (hW.mono hn₀)) (Nat.lt_of_lt_of_le hb2 hW.size) (Nat.lt_of_lt_of_le hb3 hW.size) ((hW.cell (p := ⟨B1, 0, none⟩) hb1).trans h1) ((hW.cell (p := ⟨B2, 0, none⟩) hb2).trans h2) ((hW.cell (p := ⟨B3, 0, none⟩) hb3).trans h3) h0

end Go.Proofs.Ytajmnhnepoomjaa
