/- tag.Parse by contract. -/
import Derived.Test.YtepngkhepcjdfaaDoorTagPrs
import Derived.Test.YtepngkhepcjdfaaDoorTagRows
import Derived.Test.YtepngkhepcjdfaaDoorTagBits
namespace Go.Proofs.YtepngkhepcjdfaaDoor
open Go.RowKit Go.Shelf
attribute [local go_sem] Oper.semAt_some wideS_fn wideS_depth

/-- A number and an error that a call leaves. -/
def MaskOut (m why : Nat) (w : World) (e : Ending) (w' : World) : Prop := e = .returned (.tuple #[.int .u64 (m : Int), .int .i64 (why : Int)]) ∧ Below w.heap.size w w'

theorem boxed_below {W W' : World} {n B : Nat} {t : TypeId} {v : Value} (h : Boxed W B t v) (hb : Below n W W') (hn : B < n) : Boxed W' B t v := (hb.block B hn).trans h
theorem boxed_put {W : World} {B l : Nat} {t : TypeId} {v : Value} (h : Boxed W B t v) (hn : B ≠ l) (o : Obj) : Boxed (W.putObj l o) B t v := (World.putObj_heap_other hn).trans h
theorem below_put {B : Nat} {a w : World} (h : Below B a w) (l : Nat) (hl : B ≤ l) (o : Obj) : Below B a (w.putObj l o) :=
  ⟨h.os, h.tape, h.output, by simpa [World.putObj] using h.size, fun k hk => (World.putObj_heap_other (by omega)).trans (h.block k hk)⟩

/-- What stands in Parse's boxes, behind the parts pre. -/
structure ParseI (A : Option Addr) (zs : List ByteArray) (c : Nat) (w : World) (B : Nat) (pre : List ByteArray) (W : World) : Prop where
  here : pre.all (isIn zs) = true
  mask : Boxed W B 23 (.int .u64 ((goP (pre.map (plcOf zs))).1 : Int))
  twice : Boxed W (B + 1) 4 (.bool (goP (pre.map (plcOf zs))).2.1)
  falls : Boxed W (B + 1 + 1) 4 (.bool (goP (pre.map (plcOf zs))).2.2)
  table : Boxed W w.heap.size 22 (.slice A zs.length c)
  out : Boxed W (w.heap.size + 1) 23 (.int .u64 0)
  why : Boxed W (w.heap.size + 1 + 1) 25 (.int .i64 0)
  below : Below w.heap.size w W
/-- .. where a part was none. -/
structure ParseX (zs : List ByteArray) (w : World) (pre : List ByteArray) (W : World) : Prop where
  gone : pre.all (isIn zs) = false
  out : Boxed W (w.heap.size + 1) 23 (.int .u64 0)
  why : Boxed W (w.heap.size + 1 + 1) 25 (.int .i64 3)
  below : Below w.heap.size w W

theorem ParseI.abides {A : Option Addr} {zs : List ByteArray} {c : Nat} {w : World} {B b : Nat} (h1 : w.heap.size + 1 + 1 < B) (h2 : B + 1 + 1 < b) : AbidesBox b (ParseI A zs c w B) := fun _ _ h =>
  ⟨⟨h.here, h.mask, h.twice, h.falls, h.table, h.out, h.why, h.below.drew⟩, fun _ =>
    ⟨h.here, h.mask.other (by omega) _, h.twice.other (by omega) _, h.falls.other (by omega) _, h.table.other (by omega) _, h.out.other (by omega) _, h.why.other (by omega) _, h.below.setCell (p := ⟨b, 0, none⟩) (by show w.heap.size ≤ b; omega) _⟩⟩
theorem ParseX.abides {zs : List ByteArray} {w : World} {b : Nat} (h1 : w.heap.size + 1 + 1 < b) : AbidesBox b (ParseX zs w) := fun _ _ h =>
  ⟨⟨h.gone, h.out, h.why, h.below.drew⟩, fun _ => ⟨h.gone, h.out.other (by omega) _, h.why.other (by omega) _, h.below.setCell (p := ⟨b, 0, none⟩) (by show w.heap.size ≤ b; omega) _⟩⟩
theorem ParseI.put {A : Option Addr} {zs : List ByteArray} {c : Nat} {w : World} {B : Nat} {pre : List ByteArray} {W : World} {l : Nat} (h : ParseI A zs c w B pre W) (h1 : w.heap.size + 1 + 1 < B) (h2 : B + 1 + 1 < l) (o : Obj) : ParseI A zs c w B pre (W.putObj l o) :=
  ⟨h.here, boxed_put h.mask (by omega) o, boxed_put h.twice (by omega) o, boxed_put h.falls (by omega) o, boxed_put h.table (by omega) o, boxed_put h.out (by omega) o, boxed_put h.why (by omega) o, below_put h.below l (by omega) o⟩
theorem ParseX.put {zs : List ByteArray} {w : World} {pre : List ByteArray} {W : World} {l : Nat} (h : ParseX zs w pre W) (h2 : w.heap.size + 1 + 1 < l) (o : Obj) : ParseX zs w pre (W.putObj l o) :=
  ⟨h.gone, boxed_put h.out (by omega) o, boxed_put h.why (by omega) o, below_put h.below l (by omega) o⟩
theorem ParseI.alloc {A : Option Addr} {zs : List ByteArray} {c : Nat} {w : World} {B : Nat} {pre : List ByteArray} {W : World} (h : ParseI A zs c w B pre W) (o : Obj) : ParseI A zs c w B pre (W.alloc o) :=
  ⟨h.here, h.mask.alloc o, h.twice.alloc o, h.falls.alloc o, h.table.alloc o, h.out.alloc o, h.why.alloc o, h.below.alloc h.below.size o⟩

theorem kp_set {b B : Nat} (W : World) (v : Value) (h : B < b) : KpS b W (W.setCell ⟨B, 0, none⟩ v) := fun k h1 _ => Below.heap_setCell W ⟨B, 0, none⟩ v k (by show k ≠ B; omega)
theorem plc_lt {zs : List ByteArray} {p : ByteArray} (h : chkT zs = 0) (hp : isIn zs p = true) : plcOf zs p < 64 := by
  have hl := chkT_len h
  have h0 := of_decide_eq_true hp
  rcases idxOf_ways zs p with ⟨e, _⟩ | ⟨k, e, hk, _⟩
  · omega
  · unfold plcOf
    omega
theorem bit_facts (m k : Nat) (hk : k < 64) (hm : m < 2 ^ 64) :
    (bits .and .u64 (m : Int) (IntKind.u64.wrap (2 ^ k)) == IntKind.u64.wrap (2 ^ k)) = m.testBit k ∧ decide (IntKind.u64.wrap (2 ^ k) < (m : Int)) = decide (2 ^ k < m) ∧
      bits .or .u64 (m : Int) (IntKind.u64.wrap (2 ^ k)) = ((m ||| 2 ^ k : Nat) : Int) := by
  have hlt : 2 ^ k < 2 ^ 64 := Nat.pow_lt_pow_right (by decide) hk
  have h64 : 2 ^ 64 = 18446744073709551616 := by decide
  have hb : (m &&& 2 ^ k = 2 ^ k) ↔ m.testBit k = true := by
    constructor
    · intro h
      have := congrArg (fun n => n.testBit k) h
      simpa [Nat.testBit_and, Nat.testBit_two_pow_self] using this
    · intro h
      refine Nat.eq_of_testBit_eq fun i => ?_
      rw [Nat.testBit_and, Nat.testBit_two_pow]
      by_cases e : k = i
      · subst e; simp [h]
      · simp [e]
  have hc : (2 : Int) ^ k = ((2 ^ k : Nat) : Int) := pow_cast k
  rw [hc]
  generalize m.testBit k = t at *
  generalize 2 ^ k = p at *
  have hq : IntKind.u64.wrap (p : Int) = (p : Int) := by
    rw [IntKind.wrap_u64, Int.emod_eq_of_lt (by omega) (by omega)]
  rw [hq, bits_and_u64 _ _ (by omega) (by omega) (by omega) (by omega), bits_or_u64 _ _ (by omega) (by omega) (by omega) (by omega), Int.toNat_natCast, Int.toNat_natCast]
  refine ⟨?_, by simp only [Int.ofNat_lt], rfl⟩
  rw [Bool.eq_iff_iff, beq_iff_eq, Int.natCast_inj]
  exact hb
theorem step_ok {A : Option Addr} {zs : List ByteArray} {c : Nat} {w W : World} {B b k m : Nat} {mq : Int} {tw fl : Bool} {pre : List ByteArray} {x : ByteArray} {Ix : World → Prop} {a : Act}
    (h : ParseI A zs c w B pre W) (hs : w.heap.size + 1 + 1 < B ∧ B + 1 + 1 < b) (hin : (pre ++ [x]).all (isIn zs) = true) (hg : goP ((pre ++ [x]).map (plcOf zs)) = (m ||| 2 ^ k, tw, fl)) (hm : mq = ((m ||| 2 ^ k : Nat) : Int)) :
    SPost b (ParseI A zs c w B (pre ++ [x])) Ix W .normal a (((W.setCell ⟨B + 1, 0, none⟩ (.bool tw)).setCell ⟨B + 1 + 1, 0, none⟩ (.bool fl)).setCell ⟨B, 0, none⟩ (.int .u64 mq)) := by
  subst hm
  obtain ⟨h1, h2⟩ := hs
  refine ⟨((KeepsOthers.setCell _ _ _).trans (KeepsOthers.setCell _ _ _)).trans (KeepsOthers.setCell _ _ _), ((kp_set _ _ (by omega)).trans (kp_set _ _ (by omega))).trans (kp_set _ _ (by omega)), hin, ?_, ?_, ?_, ?_, ?_, ?_, ?_⟩
  · rw [hg]; exact ((h.mask.other (by omega) _).other (by omega) _).set _
  · rw [hg]; exact ((h.twice.set _).other (by omega) _).other (by omega) _
  · rw [hg]; exact ((h.falls.other (by omega) _).set _).other (by omega) _
  · exact ((h.table.other (by omega) _).other (by omega) _).other (by omega) _
  · exact ((h.out.other (by omega) _).other (by omega) _).other (by omega) _
  · exact ((h.why.other (by omega) _).other (by omega) _).other (by omega) _
  · exact ((h.below.setCell (p := ⟨B + 1, 0, none⟩) (by show w.heap.size ≤ B + 1; omega) _).setCell (p := ⟨B + 1 + 1, 0, none⟩) (by show w.heap.size ≤ B + 1 + 1; omega) _).setCell (p := ⟨B, 0, none⟩) (by show w.heap.size ≤ B; omega) _

/-- A loop over an iterator that tells nothing. -/
theorem range_none {P : Program} {g : Operand} {ps : Array Tmp} {assign body : Code} {Q : Exit → Act → World → Prop} {a : Act} {w : World} {n gf : Nat} {lb : Array Value}
    (hg : a.eval g = .func (.func gf) #[] lb) (eg : ∀ args w, (callFunc gf args).run P w = .ok (.enter gf args) w)
    (hc : ∀ l W, CallsIn Fence.wide (n - 1) P gf (#[.func (.yield l) #[] #[]] ++ lb) W fun e W' => (∃ v, e = .returned v) ∧ W = W')
    (I : World → Prop) (pI : ∀ W l o', w.heap.size ≤ l → I W → I (W.putObj l o')) (h0 : ∀ o o', I ((w.alloc o).alloc o'))
    (hdone : ∀ (D : Nat) (W : World), w.heap.size ≤ D → I W → W.heap[D]? = some (.deferred (some [])) → Q .normal { a with defers := { target := .collected D, args := #[] } :: a.defers } W) :
    (Code.rangeFunc g ps assign body).wpIn Fence.wide n P Q a w := by
  refine wpIn_rangeFunc fun fn hfn => ?_
  obtain ⟨r0, hr0⟩ : ∃ r0 : Loop, r0 = { state := .ready, pending := none, fn, tmps := a.tmps, params := ps, assign, body, defers := w.heap.size } := ⟨_, rfl⟩
  obtain ⟨W1, hW1⟩ : ∃ W1, W1 = (w.alloc (.deferred (some []))).alloc (.loop r0) := ⟨_, rfl⟩
  have hs : (w.alloc (.deferred (some []))).heap.size = w.heap.size + 1 := World.size_alloc _ _
  have hR1 : RecAt W1 (w.heap.size + 1) w.heap.size r0 := by
    subst hW1
    refine ⟨?_, (Below.heap_alloc _ _ _ (by omega)).trans (World.alloc_heap_new w _)⟩
    have := World.alloc_heap_new (w.alloc (.deferred (some []))) (.loop r0)
    rwa [hs] at this
  have hi1 : I W1 := by subst hW1; exact h0 _ _
  refine ⟨w.heap.size + 1, [{ target := .collected w.heap.size, args := #[] }], W1, { target := .fn (.func gf) lb, args := #[.func (.yield (w.heap.size + 1)) #[] #[]] }, W1, gf,
    #[.func (.yield (w.heap.size + 1)) #[] #[]] ++ lb, W1, ?_, ?_, fun _ _ => trivial, ?_, fun h => (by cases h), ?_⟩
  · rw [hW1, hr0]; exact run_enterLoop_outer _ _ _ _ _
  · simp only [resolve, hg]
    simp [go_sem]
  · simp [invoke, go_sem, eg]
  · refine (hc (w.heap.size + 1) W1).mono ?_
    rintro e W2 ⟨⟨v, rfl⟩, rfl⟩
    have he := run_endLoop (P := P) hR1.1 (by rw [hr0]; simp)
    have hp : r0.pending = none := by rw [hr0]
    rw [hp] at he
    exact ⟨none, _, he, hdone _ _ (Nat.le_refl _) (pI _ _ _ (by omega) hi1) ((World.putObj_heap_other (by omega)).trans hR1.2)⟩

theorem partsNone_in (m l : Nat) (W : World) : CallsIn Fence.wide m Tryd.prog 38 (#[.func (.yield l) #[] #[]] ++ #[]) W fun e W' => (∃ v, e = .returned v) ∧ W = W' := by
  refine callsIn_of_wp Tryd.func38 rfl trivial ?_ rfl
  simp only [Tryd.ntmps38, List.size_toArray, List.length_cons, List.length_nil, Nat.reduceAdd, Nat.reduceSub, Array.replicate_succ, Array.replicate_zero, List.push_toArray, List.append_toArray, List.nil_append, List.cons_append]
  gi_wp2
  go_end0
  exact ⟨⟨_, rfl⟩, rfl⟩

theorem parse_below {w W : World} (h : Below w.heap.size w W) {u v : Value} : Below w.heap.size w ((W.setCell ⟨w.heap.size + 1, 0, none⟩ u).setCell ⟨w.heap.size + 1 + 1, 0, none⟩ v) :=
  (h.setCell (p := ⟨w.heap.size + 1, 0, none⟩) (Nat.le_add_right _ _) _).setCell (p := ⟨w.heap.size + 1 + 1, 0, none⟩) (Nat.le_add_right _ 2) _
theorem parse_keeps {W : World} {B D : Nat} {u v : Value} (h : W.heap[D]? = some (.deferred (some []))) : ((W.setCell ⟨B + 1, 0, none⟩ u).setCell ⟨B + 1 + 1, 0, none⟩ v).heap[D]? = some (.deferred (some [])) :=
  ((KeepsOthers.setCell _ _ _).trans (KeepsOthers.setCell _ _ _)).same D _ h rfl
theorem parse_out {n D m why : Nat} {w W : World} {T : Array Value} (h4 : T[4]?.getD undef = .pointer (some ⟨w.heap.size + 1, 0, none⟩)) (h5 : T[5]?.getD undef = .pointer (some ⟨w.heap.size + 1 + 1, 0, none⟩))
    (b1 : Boxed W (w.heap.size + 1) 23 (.int .u64 (m : Int))) (b2 : Boxed W (w.heap.size + 1 + 1) 25 (.int .i64 (why : Int))) (hB : Below w.heap.size w W)
    (hK : W.heap[D]? = some (.deferred (some []))) (hD : w.heap.size + 1 + 1 < D) :
    bodyPostM Fence.wide n Tryd.prog Tryd.f11 (MaskOut m why w) .ret { tmps := T, defers := [{ target := .collected D, args := #[] }] } W := by
  refine ⟨by simp, .inl ⟨_, _, rfl, run_takeDeferred hK, ?_⟩⟩
  have c1 := (boxed_put b1 (by omega : w.heap.size + 1 ≠ D) (.deferred none)).cell
  have c2 := (boxed_put b2 (by omega : w.heap.size + 1 + 1 ≠ D) (.deferred none)).cell
  refine ⟨.tuple #[.int .u64 (m : Int), .int .i64 (why : Int)], ?_, rfl, below_put hB D (by omega) _⟩
  simp [results, Tryd.f11, go_sem, c1, c2, h4, h5]

set_option maxRecDepth 100000 in
set_option maxHeartbeats 4000000 in
theorem Parse_any (A : Option Addr) (zs : List ByteArray) (c : Nat) (s : ByteArray) (w : World) (hA : Rd Value.string w w.heap.size A zs) (hc : zs.length ≤ c) (hm : c ≤ 9223372036854775807) (hs : s.size ≤ 9223372036854775806) :
    Calls Tryd.prog 11 #[.slice A zs.length c, .string s] w (MaskOut (prsM zs s) (prsW zs s) w) := by
  by_cases ht : chkT zs = 0
  · refine (callsIn_wide (n := 4)).1 ?_
    refine callsIn_of_wp_marks Tryd.func11 rfl trivial ?_ rfl
    simp only [Tryd.ntmps11, List.size_toArray, List.length_cons, List.length_nil, Nat.reduceAdd, Nat.reduceSub, Array.replicate_succ, Array.replicate_zero, List.push_toArray, List.append_toArray, List.nil_append, List.cons_append]
    have b0 := Boxed.new w 22 (.slice A zs.length c)
    have b1 := (Boxed.new (w.alloc (.cells #[.slice A zs.length c] 22)) 23 (.int .u64 0))
    have b2 := (Boxed.new ((w.alloc (.cells #[.slice A zs.length c] 22)).alloc (.cells #[.int .u64 0] 23)) 25 (.int .i64 0))
    have hB0 : Below w.heap.size w (((w.alloc (.cells #[.slice A zs.length c] 22)).alloc (.cells #[.int .u64 0] 23)).alloc (.cells #[.int .i64 0] 25)) :=
      (((Below.refl _ w).alloc (Nat.le_refl _) _).alloc (by simp) _).alloc (by simp; omega) _
    have hA3 := (hA.below hB0).more (B' := w.heap.size + 3) (by omega)
    gi_wp2_with fail
    refine CallsIn.mono (callsIn_wide.2 (Check_any A zs c _ (by simpa using hA3) hc hm)) ?_
    rintro e w1 ⟨rfl, hb1⟩
    rw [ht]
    have hbw := hB0.trans (hb1.mono (by simp; omega))
    have B0 := Lib.hid (boxed_below ((b0.alloc _).alloc _) hb1 (by simp; omega))
    have B1 := Lib.hid (boxed_below (b1.alloc _) hb1 (by simp))
    have B2 := Lib.hid (boxed_below b2 hb1 (by simp))
    have hsz := hb1.size
    simp only [World.size_alloc] at hsz B0 B1 B2
    clear b0 b1 b2 hB0 hA3
    by_cases h0 : s.size = 0
    · have HP := Lib.hid (show partsB s = [] from if_pos h0)
      obtain rfl := empty_of s h0
      clear h0 hs
      gi_wp2_with fail
      refine CallsIn.mono (callsIn_wide.2 (partsOf_empty _)) ?_
      rintro e w2 ⟨rfl, rfl⟩
      gi_wp2_with fail
      have n0 := Boxed.new w1 23 (.int .u64 0)
      have n1 := Boxed.new (w1.alloc (.cells #[.int .u64 0] 23)) 4 (.bool false)
      have n2 := Boxed.new ((w1.alloc (.cells #[.int .u64 0] 23)).alloc (.cells #[.bool false] 4)) 4 (.bool false)
      simp only [World.size_alloc] at n1 n2
      have hI0 : ParseI A zs c w w1.heap.size [] (((w1.alloc (Obj.cells #[Value.int IntKind.u64 0] 23)).alloc (Obj.cells #[Value.bool false] 4)).alloc (Obj.cells #[Value.bool false] 4)) :=
        ⟨rfl, (n0.alloc _).alloc _, n1.alloc _, n2, ((B0.out.alloc _).alloc _).alloc _, ((B1.out.alloc _).alloc _).alloc _, ((B2.out.alloc _).alloc _).alloc _,
          ((hbw.alloc (by omega) _).alloc (by simp; omega) _).alloc (by simp; omega) _⟩
      clear n0 n1 n2 B0 B1 B2
      refine range_none rfl (enters_of Tryd.func38 (by kernel_rfl) rfl) (fun l W => partsNone_in _ l W)
        (fun W => ParseI A zs c w w1.heap.size [] W) (fun W l o hl h => h.put (by omega) (by simp at hl; omega) o) (fun o o' => (hI0.alloc o).alloc o') ?done
      case done =>
        rintro D W hD hI hK
        clear hI0
        obtain ⟨he1, he2⟩ := prs_end zs (ByteArray.mk #[]) ht (by rw [HP.out]; rfl)
        rw [HP.out] at he1 he2
        have c0 := hI.mask.cell
        have c1 := hI.twice.cell
        have c2 := hI.falls.cell
        have c4 := hI.out.cell
        have c5 := hI.why.cell
        have f4 := hI.out.frozen
        have f5 := hI.why.frozen
        have HI := Lib.hid hI
        have HE := Lib.hid (And.intro he1 he2)
        clear he1 he2 hI
        simp only [World.size_alloc] at hD
        gi_wp2
        rw [HE.out.2, HE.out.1]
        exact parse_out rfl rfl ((HI.out.out.set _).other (by omega) _) ((HI.out.why.other (by omega) _).set _) (parse_below HI.out.below) (parse_keeps hK) (by omega)
    · gi_wp2_with fail
      refine CallsIn.mono (callsIn_wide.2 (partsOf_any s _ h0)) ?_
      rintro e w2 ⟨rfl, rfl⟩
      gi_wp2_with fail
      have n0 := Boxed.new w1 23 (.int .u64 0)
      have n1 := Boxed.new (w1.alloc (.cells #[.int .u64 0] 23)) 4 (.bool false)
      have n2 := Boxed.new ((w1.alloc (.cells #[.int .u64 0] 23)).alloc (.cells #[.bool false] 4)) 4 (.bool false)
      have hsb := split_boxes s (((w1.alloc (.cells #[.int .u64 0] 23)).alloc (.cells #[.bool false] 4)).alloc (.cells #[.bool false] 4))
      simp only [World.size_alloc] at n1 n2 hsb
      have hI0 : ParseI A zs c w w1.heap.size [] ((((((w1.alloc (Obj.cells #[Value.int IntKind.u64 0] 23)).alloc (Obj.cells #[Value.bool false] 4)).alloc (Obj.cells #[Value.bool false] 4)).alloc (Obj.cells #[Value.string s] 9)).alloc (Obj.cells #[Value.string { data := #[43] }] 9)).alloc (Obj.cells #[Value.int IntKind.i64 0] 3)) :=
        (((⟨rfl, (n0.alloc _).alloc _, n1.alloc _, n2, ((B0.out.alloc _).alloc _).alloc _, ((B1.out.alloc _).alloc _).alloc _, ((B2.out.alloc _).alloc _).alloc _,
          ((hbw.alloc (by omega) _).alloc (by simp; omega) _).alloc (by simp; omega) _⟩ : ParseI A zs c w w1.heap.size [] (((w1.alloc (Obj.cells #[Value.int IntKind.u64 0] 23)).alloc (Obj.cells #[Value.bool false] 4)).alloc (Obj.cells #[Value.bool false] 4))).alloc _).alloc _).alloc _
      clear n0 n1 n2 B0 B1 B2
      refine range_box rfl (enters_of Tryd.func53 (by kernel_rfl) rfl) Value.string _ (split_stops (4 - 1) _ s hs _ hsb) (by simp) rfl
        (fun pre W => ParseI A zs c w w1.heap.size pre W) (fun pre W => ParseX zs w pre W) (ParseI.abides (by omega) (by omega)) (ParseX.abides (by omega))
        (fun pre W l o o' hl _ _ h => h.put (by omega) (by simp at hl; omega) o') (fun pre W l o o' hl _ _ h => h.put (by simp at hl; omega) o')
        (fun o o' => (hI0.alloc o).alloc o')
        (fun x => { tmps := #[Value.slice A zs.length c, Value.string s, Value.pointer (some ⟨w.heap.size, 0, none⟩), undef,
          Value.pointer (some ⟨w.heap.size + 1, 0, none⟩), Value.pointer (some ⟨w.heap.size + 1 + 1, 0, none⟩), Value.int IntKind.i64 0,
          Value.pointer (some ⟨w1.heap.size, 0, none⟩), Value.pointer (some ⟨w1.heap.size + 1, 0, none⟩), Value.pointer (some ⟨w1.heap.size + 1 + 1, 0, none⟩), .string x, undef, undef,
          Value.slice A zs.length c, Value.int IntKind.i64 0, Value.int IntKind.i64 0, Value.bool false, undef, Value.string s,
          Value.func (Fn.func 53) #[] #[Value.pointer (some ⟨w1.heap.size + 1 + 1 + 1 + 1, 0, none⟩), Value.pointer (some ⟨w1.heap.size + 1 + 1 + 1, 0, none⟩), Value.pointer (some ⟨w1.heap.size + 1 + 1 + 1 + 2, 0, none⟩)],
          .string x, undef, undef, undef, undef, undef, undef, undef, undef, undef, undef, undef, undef, undef, undef, undef, undef, undef, undef, undef, undef, undef, undef, undef, undef, undef], defers := [] }) ?assign ?body ?done ?stop
      case assign =>
        intro l x W K hK
        gi_wp2
        exact hK
      case body =>
        rintro l pre x W hI
        clear hsb hI0
        have c0 := hI.mask.cell
        have c1 := hI.twice.cell
        have c2 := hI.falls.cell
        have f0 := hI.mask.frozen
        have f1 := hI.twice.frozen
        have f2 := hI.falls.frozen
        have c3 := hI.table.cell
        have c4 := hI.out.cell
        have c5 := hI.why.cell
        have f4 := hI.out.frozen
        have f5 := hI.why.frozen
        have HI := Lib.hid hI
        have hA' := hA.below hI.below
        have hGo : Hid (goP ((pre ++ [x]).map (plcOf zs)) = stepP (goP (pre.map (plcOf zs))) (plcOf zs x)) := by
          rw [Hid, List.map_append, List.map_cons, List.map_nil, goP_snoc]
        rcases idxOf_ways zs x with ⟨hi, hn⟩ | ⟨k, hi, hk, _⟩
        · have HX := Lib.hid hi
          clear hI c0 c1 c2 f0 f1 f2 hi
          gi_wp2_with fail
          refine CallsIn.mono (CallsIn.inRound l (callsIn_wide.2 (Index_any A zs c x _ (hA'.more HI.out.below.size) (by omega)))) ?_
          rintro e w2 ⟨rfl, rfl⟩
          rw [HX.out]
          gi_wp2
          refine ⟨(KeepsOthers.setCell _ _ _).trans (KeepsOthers.setCell _ _ _), ?_, ?_, ?_, ?_⟩
          · rw [List.all_append]
            simp [isIn, HX.out]
          · exact (HI.out.out.set _).other (by omega) _
          · exact (HI.out.why.other (by omega) _).set _
          · exact (HI.out.below.setCell (p := ⟨w.heap.size + 1, 0, none⟩) (Nat.le_add_right _ _) _).setCell (p := ⟨w.heap.size + 1 + 1, 0, none⟩) (Nat.le_add_right _ 2) _
        · have HX := Lib.hid hi
          have hk6 : k < 64 := by have := chkT_len ht; omega
          have hpl : plcOf zs x = k := by unfold plcOf; rw [hi]; rfl
          have hin : (pre ++ [x]).all (isIn zs) = true := by rw [List.all_append, hI.here]; simp [isIn, hi]
          rw [hpl] at hGo
          generalize hgt : goP (pre.map (plcOf zs)) = t at *
          obtain ⟨m, tw, fl⟩ := t
          have HN := Lib.hid hin
          clear hi hI hpl hin
          have hmb : m < 2 ^ 64 := by
            have := goP_lt (pre.map (plcOf zs)) (fun i hi => by
              obtain ⟨p, hp, rfl⟩ := List.mem_map.1 hi
              exact plc_lt ht (List.all_eq_true.1 HI.out.here p hp))
            rw [hgt] at this
            exact this
          have HF := Lib.hid (bit_facts m k hk6 hmb)
          clear hmb hgt
          gi_wp2_with fail
          refine CallsIn.mono (CallsIn.inRound l (callsIn_wide.2 (Index_any A zs c x _ (hA'.more HI.out.below.size) (by omega)))) ?_
          rintro e w2 ⟨rfl, rfl⟩
          rw [HX.out]
          cases tw <;> cases fl
          · gi_wp2_with fail
            generalize IntKind.u64.wrap (2 ^ k) = q at *
            refine CallsIn.mono (CallsIn.inRound l (callsIn_wide.2 (tagHas_any _ _ _))) ?_
            rintro e w2 ⟨rfl, rfl⟩
            gi_wp2
            exact step_ok HI.out (by omega) HN.out (by rw [hGo.out, stepP, ← (HF.out).1, ← (HF.out).2.1]; rfl) (HF.out).2.2
          · gi_wp2_with fail
            generalize IntKind.u64.wrap (2 ^ k) = q at *
            refine CallsIn.mono (CallsIn.inRound l (callsIn_wide.2 (tagHas_any _ _ _))) ?_
            rintro e w2 ⟨rfl, rfl⟩
            gi_wp2
            exact step_ok HI.out (by omega) HN.out (by rw [hGo.out, stepP, ← (HF.out).1]; rfl) (HF.out).2.2
          · gi_wp2
            generalize IntKind.u64.wrap (2 ^ k) = q at *
            exact step_ok HI.out (by omega) HN.out (by rw [hGo.out, stepP, ← (HF.out).2.1]; rfl) (HF.out).2.2
          · gi_wp2
            generalize IntKind.u64.wrap (2 ^ k) = q at *
            exact step_ok HI.out (by omega) HN.out (by rw [hGo.out]; rfl) (HF.out).2.2
      case done =>
        rintro D xs W hD hxs hI hK
        subst hxs
        clear hsb hI0
        have hP : partsB s = cutAll s.size s := if_neg h0
        obtain ⟨he1, he2⟩ := prs_end zs s ht (by rw [hP]; exact hI.here)
        rw [hP] at he1 he2
        have c0 := hI.mask.cell
        have c1 := hI.twice.cell
        have c2 := hI.falls.cell
        have c4 := hI.out.cell
        have c5 := hI.why.cell
        have f4 := hI.out.frozen
        have f5 := hI.why.frozen
        have HI := Lib.hid hI
        have HE := Lib.hid (And.intro he1 he2)
        clear he1 he2 hP
        generalize goP ((cutAll s.size s).map (plcOf zs)) = t at *
        obtain ⟨m, tw, fl⟩ := t
        clear hI
        simp only [World.size_alloc] at hD
        cases tw
        · cases fl
          · gi_wp2
            rw [HE.out.2, HE.out.1]
            exact parse_out rfl rfl ((HI.out.out.set _).other (by omega) _) ((HI.out.why.other (by omega) _).set _) (parse_below HI.out.below) (parse_keeps hK) (by omega)
          · gi_wp2
            rw [HE.out.2, HE.out.1]
            exact parse_out rfl rfl ((HI.out.out.set _).other (by omega) _) ((HI.out.why.other (by omega) _).set _) (parse_below HI.out.below) (parse_keeps hK) (by omega)
        · gi_wp2
          rw [HE.out.2, HE.out.1]
          exact parse_out rfl rfl ((HI.out.out.set _).other (by omega) _) ((HI.out.why.other (by omega) _).set _) (parse_below HI.out.below) (parse_keeps hK) (by omega)
      case stop =>
        rintro D pre W hD ⟨r, hr⟩ hX hK
        clear hsb hI0
        have hP : partsB s = cutAll s.size s := if_neg h0
        have HE := Lib.hid (prs_none zs s ht (by rw [hP, hr, List.all_append, hX.gone]; rfl))
        have HX := Lib.hid hX
        clear hX hP hr
        simp only [World.size_alloc] at hD
        gi_wp2
        rw [HE.out.1, HE.out.2]
        exact parse_out rfl rfl HX.out.out HX.out.why HX.out.below hK (by omega)
  · have HW := Lib.hid (prs_err zs s ht)
    go_enter Tryd.func11, Tryd.ntmps11
    have hB0 : Below w.heap.size w (((w.alloc (.cells #[.slice A zs.length c] 22)).alloc (.cells #[.int .u64 0] 23)).alloc (.cells #[.int .i64 0] 25)) :=
      (((Below.refl _ w).alloc (Nat.le_refl _) _).alloc (by simp) _).alloc (by simp; omega) _
    have b1 := (Boxed.new (w.alloc (.cells #[.slice A zs.length c] 22)) 23 (.int .u64 0))
    have b2 := (Boxed.new ((w.alloc (.cells #[.slice A zs.length c] 22)).alloc (.cells #[.int .u64 0] 23)) 25 (.int .i64 0))
    have hA3 := (hA.below hB0).more (B' := w.heap.size + 3) (by omega)
    go_wp2_with fail
    refine (Check_any A zs c _ (by simpa using hA3) hc hm).mono ?_
    rintro e w1 ⟨rfl, hb1⟩
    have hbw := hB0.trans (hb1.mono (by simp; omega))
    have B1 := Lib.hid (boxed_below (b1.alloc _) hb1 (by simp))
    have B2 := Lib.hid (boxed_below b2 hb1 (by simp))
    simp only [World.size_alloc] at B1 B2
    have c4 := B1.out.cell
    have c5 := B2.out.cell
    have f4 := B1.out.frozen
    have f5 := B2.out.frozen
    clear b1 b2 hB0 hA3 hb1
    generalize chkT zs = t at ht HW
    have ht' : ((t : Int) != 0) = true := by rw [bne_iff_ne]; omega
    go_wp2
    refine bodyPost_ret (v := .tuple #[.int .u64 0, .int .i64 (t : Int)]) (by simp [results, Tryd.f11, go_sem, c4, c5]) rfl ?_
    exact ⟨by rw [HW.out.1, HW.out.2]; rfl, parse_below hbw⟩

end Go.Proofs.YtepngkhepcjdfaaDoor
