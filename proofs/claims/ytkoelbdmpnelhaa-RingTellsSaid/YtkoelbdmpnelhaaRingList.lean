/- ring's List, by contract: the slots from the head on. -/
import Derived.Test.YtkoelbdmpnelhaaRingNL
import Derived.Test.YtkoelbdmpnelhaaClkNew
import Derived.Test.YtkoelbdmpnelhaaEpMem
import Derived.Test.YtkoelbdmpnelhaaLits
import Derived.Laws.AppendOwnNone
import Derived.Deep.RegionHeld3
import Derived.Deep.DeepCutAuto
import Derived.Deep.CutBlock
import Derived.Handy
namespace Go.Proofs.Ytkoelbdmpnelhaa
open Go.RowKit Go.Maps

/-- What At tells of these words, wherever it is called from now on. -/
def AtC (ws : List Int) (c : Nat) (A : Option Addr) (w : World) : Prop := ∀ W, Below w.heap.size w W → ∀ s : Int, ∃ n p : Int, NW ws s = n ∧ PW ws s = p ∧ (-1 ≤ n ∧ n ≤ 4096) ∧ (-1 ≤ p ∧ p ≤ 4096) ∧
  Calls Try.prog 59 #[.slice A ws.length c, .int .i64 s] W fun e w' => e = .returned (.tuple #[.int .i64 n, .int .i64 p]) ∧ Below W.heap.size W w'
theorem AtC.of {ws : List Int} {c : Nat} {A : Option Addr} {w : World} {B : Nat} (hA : Rd (Value.int .u64) w B A ws) (hB : B ≤ w.heap.size) (hI : U64L ws) : AtC ws c A w := fun W hb s =>
  have bnd := bndW hI
  ⟨_, _, rfl, rfl, bnd.n0 s, bnd.p0 s, rAt_any ws c A s W (hA.below (hb.mono hB)) hI⟩
theorem AtC.later {ws : List Int} {c : Nat} {A : Option Addr} {w w1 : World} (h : AtC ws c A w) (hb : Below w.heap.size w w1) : AtC ws c A w1 := fun W hW s => h W (Below.next hb hW) s

theorem lstF_stop {N : Int → Int} {n : Nat} {L : List Int} {a : Int} (h : ¬ (0 < a ∧ a ∉ L)) : lstF N n L a = L := by
  cases n with
  | zero => rfl
  | succ n => rw [lstF, if_neg h]
theorem lstF_step {N : Int → Int} {n : Nat} {L : List Int} {a : Int} (h0 : 0 < a) (h : a ∉ L) (hn : 0 < n) : lstF N n L a = lstF N (n - 1) (L ++ [a]) (N a) := by
  obtain ⟨m, rfl⟩ : ∃ m, n = m + 1 := ⟨n - 1, by omega⟩
  rw [lstF, if_pos ⟨h0, h⟩]
  rfl
/-- Slots that were met: each once, from 1 on. -/
def MetR (L : List Int) : Prop := L.Nodup ∧ ∀ x ∈ L, 0 < x ∧ x ≤ 4096
theorem MetR.len {L : List Int} (h : MetR L) : L.length ≤ 4096 := by
  have : L.length ≤ ((List.range 4096).map fun (i : Nat) => ((i : Int) + 1)).length := nodup_len L _ h.1 (fun x hx => by
    have := h.2 x hx
    exact List.mem_map.2 ⟨(x - 1).toNat, List.mem_range.2 (by omega), by omega⟩)
  simpa using this
theorem MetR.snoc {L : List Int} {a : Int} (h : MetR L) (h0 : 0 < a) (h1 : a ≤ 4096) (hn : a ∉ L) : MetR (L ++ [a]) := by
  refine ⟨?_, fun x hx => ?_⟩
  · rw [List.nodup_append]
    exact ⟨h.1, by simp, fun x hx y hy e => by
      rw [List.mem_singleton.1 hy] at e
      exact hn (e ▸ hx)⟩
  · rcases List.mem_append.1 hx with e | e
    · exact h.2 x e
    · rw [List.mem_singleton.1 e]; exact ⟨h0, h1⟩
def memB (L : List Int) (k : Int) : Bool := decide (k ∈ L)
theorem memB_snoc (L : List Int) (a k : Int) : putU (memB L) a k = memB (L ++ [a]) k := by
  unfold putU memB
  by_cases e : k = a
  · rw [if_pos e]; simp [e]
  · rw [if_neg e]; simp [e]
theorem isI_slot {k : Int} (h : -1 ≤ k ∧ k ≤ 4096) : IsI k := by
  unfold IsI
  exact WalkArith.wf_i64 (by omega)
theorem ownsRow_lessR {w : World} {base base' : Nat} {e : TypeId} {size n : Nat} {v : Value} {xs : List Value} (h : w.ownsRow base e size v n xs) (hb : base' ≤ base) : w.ownsRow base' e size v n xs := by
  obtain ⟨hl, h⟩ := h
  rcases h with h | ⟨g, cap, cur, hv, hg, hr⟩
  · exact ⟨hl, .inl h⟩
  · exact ⟨hl, .inr ⟨g, cap, cur, hv, by omega, hr⟩⟩
/-- How long a slice is. -/
def lenS : Value → Nat
  | .slice _ n _ => n
  | _ => 0

/-- Numbers in memory of the call's own, and the room that they have. -/
def ListNew (L : List Int) (w : World) (e : Ending) (w' : World) : Prop := ∃ A c, e = .returned (.slice A L.length c) ∧ L.length ≤ c ∧ c ≤ 9223372036854775807 ∧ IntsNew L w (.returned (.slice A L.length c)) w'
theorem ListNew.of_own {L : List Int} {w w' : World} {v : Value} (h : w'.ownsRow w.heap.size 3 1 v L.length (L.map (Value.int .i64))) (hb : Below w.heap.size w w') : ListNew L w (.returned v) w' := by
  obtain ⟨A, c, rfl, h1, h2⟩ := ownSlice h
  exact ⟨A, c, rfl, h1, h2, IntsNew.of_own h hb⟩
theorem ListNew.ints {L : List Int} {w w' : World} {e : Ending} (h : ListNew L w e w') : IntsNew L w e w' := by
  obtain ⟨A, c, rfl, _, _, h⟩ := h
  exact h
set_option maxRecDepth 100000 in
set_option maxHeartbeats 2000000 in
theorem rList_n {ws : List Int} {c : Nat} {A : Option Addr} {w : World} (hT : AtC ws c A w) : Calls Try.prog 61 #[.slice A ws.length c] w (ListNew (lstW ws) w) := by
  obtain ⟨i0, hi0, hz0, hz1, hz2⟩ := info_parts info_int
  have HT := Lib.hid hT
  clear hT
  have hmm := @run_makeMap Try.prog
  have hl0 : (w.alloc (.map #[] 0)).heap.size = w.heap.size + 1 := by simp
  have hb0 : Below w.heap.size w (w.alloc (.map #[] 0)) := (Below.refl _ w).alloc (Nat.le_refl _) _
  obtain ⟨n0, p0, e1, _, hnb, _, HC⟩ := HT.out _ hb0 0
  have HS : Hid (lstW ws = lstF (NW ws) (4097 - 0) [] n0) := Lib.hid (by unfold lstW lst; rw [e1])
  have HC0 := Lib.hid HC
  clear HC e1
  go_enter Try.func61, Try.ntmps61
  go_wp2_with fail
  refine HC0.out.mono ?_
  rintro e w1 ⟨rfl, hb1⟩
  have HM1 : Hid (MapU w1 w.heap.size 0 (memB [])) := Lib.hid (((MapU.made w).same (hb1.block _ (by simp))).eq (fun k _ => by simp [memB]))
  have HB1 := Lib.hid (Below.next hb0 hb1)
  clear hb0 hb1 hl0 HC0
  go_wp2
  go_loopw [4, 5] (fun l s wr => ∃ (L : List Int) (a : Int), s = .int .i64 a ∧ wr.ownsRow (w.heap.size + 1) 3 1 l L.length (L.map (Value.int .i64)) ∧ Below w.heap.size w wr ∧ MapU wr w.heap.size L.length (memB L) ∧ Hid (MetR L) ∧ L.length ≤ 4096 ∧ -1 ≤ a ∧ a ≤ 4096 ∧ Hid (lstW ws = lstF (NW ws) (4097 - L.length) L a))
    (fun l _ _ => 4097 - lenS l)
  case atStart => exact ⟨[], n0, rfl, World.ownsRow_nil _ _ _ _, HB1.out, HM1.out, ⟨by simp, fun x hx => by cases hx⟩, by simp, hnb.1, hnb.2, HS.out⟩
  case round =>
    obtain ⟨L, a, rfl, hown, hbel, hmap, HMT, hlen, ha0, ha1, HR⟩ := hrel
    obtain ⟨A1, c1, rfl, hlc, hcm⟩ := ownSlice hown
    by_cases hpos : 0 < a
    · have hlk := hmap.look (isI_slot ⟨ha0, ha1⟩)
      by_cases hin : a ∈ L
      · have hm : memB L a = true := decide_eq_true hin
        have HO : Hid (ListNew (lstW ws) w (.returned (.slice A1 L.length c1)) (wr.alloc (.cells #[] 171))) := Lib.hid (by
          rw [HR.out, lstF_stop (fun h => h.2 hin)]
          refine ListNew.of_own (ownsRow_lessR ?_ (Nat.le_succ _)) (hbel.alloc (by have := hbel.size; omega) _)
          exact hown.alloc _)
        rw [hm] at hlk
        clear hown hbel hmap hin hm
        go_wp2
        go_ret
        exact HO.out
      · have hm : memB L a = false := decide_eq_false hin
        rw [hm] at hlk
        have hbA : Below w.heap.size w (wr.alloc (.cells #[] 171)) := hbel.alloc hbel.size _
        have hbA' : Below wr.heap.size wr (wr.alloc (.cells #[] 171)) := (Below.refl _ _).alloc (Nat.le_refl _) _
        obtain ⟨W2, hu, hm2, ht⟩ := ((hmap.same (w' := wr.alloc (.cells #[] 171)) (hbA'.block _ hmap.lt)).mono (Nat.le_refl _)).put (by unfold maxLen; omega) (isI_slot ⟨ha0, ha1⟩)
        have g2 := ht.grown
        have hrow2 : W2.ownsRow (w.heap.size + 1) 3 1 (.slice A1 L.length c1) L.length (L.map (Value.int .i64)) := ownsRow_same (hown.alloc (.cells #[] 171)) (fun g hg => g2.block g (by have := ((hown.alloc (.cells #[] 171)).lt g hg).2; exact this) (fun e => by
          have := ((hown.alloc (.cells #[] 171)).lt g hg).1
          injection e with e
          omega))
        have hbW2 : Below w.heap.size w W2 := hbA.grown g2 (by simp; have := hbel.size; omega) (fun g e => by injection e with e; omega)
        have HMM := Lib.hid (hm2.eq (fun k _ => memB_snoc L a k))
        have HMT2 := Lib.hid (HMT.out.snoc hpos ha1 hin)
        have HR2 : Hid (lstW ws = lstF (NW ws) (4097 - (L ++ [a]).length) (L ++ [a]) (NW ws a)) := Lib.hid (by
          rw [HR.out, lstF_step hpos hin (by omega)]
          congr 1
          rw [List.length_append]
          simp
          omega)
        have HB2 := Lib.hid hbW2
        have HRW := Lib.hid hrow2
        have hs2 := hbW2.size
        clear hown hbel hmap hin hm hbA hbA' hm2 ht g2 hrow2 hbW2 HR HMT
        go_upto_region 5 with (at_builtin; refine wpList_append_own _ rfl _ _ 38 rfl (w.heap.size + 1) 3 i0 (.int .i64 0) 1 8 Try.underlying38 hi0 hz0 hz1 hz2 rfl (by decide) _ _ _ rfl (HRW.out.alloc _) ⟨W2.heap.size, 0, none⟩ 1 1 [.int .i64 a] rfl rfl ?c1 ?c2 ?c3 ?c4 ?c5 ?_)
        case c2 => intro u hu; simp at hu; subst hu; rfl
        case c3 => unfold maxLen; omega
        case c4 => omega
        case c5 => simp; omega
        · intro j u hj
          match j, hj with
          | 0, hj => simp at hj; subst hj; simp [Addr.add]
        intro v' w3 hown3 hgrow _
        have hb3 := ownBase (HRW.out.alloc (.cells #[.int .i64 a] 3)) (HB2.out.alloc hs2 _) (Nat.le_succ _) (by simp; omega) hgrow
        have HRW3 : Hid (w3.ownsRow (w.heap.size + 1) 3 1 v' (L ++ [a]).length ((L ++ [a]).map (Value.int .i64))) := Lib.hid (by simpa using hown3)
        have HM3 : Hid (MapU w3 w.heap.size (L ++ [a]).length (memB (L ++ [a]))) := Lib.hid (by
          have h1 := HMM.out.same (w' := W2.alloc (.cells #[.int .i64 a] 3)) (((Below.refl _ W2).alloc (Nat.le_refl _) _).block _ HMM.out.lt)
          have h2 := h1.same (w' := w3) (hgrow.block _ h1.lt (fun e => by
            have := ((HRW.out.alloc (.cells #[.int .i64 a] 3)).lt _ e.symm).1
            omega))
          simpa using h2)
        obtain ⟨n, p, e1, _, hnb, _, HC⟩ := HT.out w3 hb3 a
        have HR3 : Hid (lstW ws = lstF (NW ws) (4097 - (L ++ [a]).length) (L ++ [a]) n) := Lib.hid (by rw [HR2.out, e1])
        have HB3 := Lib.hid hb3
        clear hb3 hown3 hgrow HRW HMM HR2 e1 HB2
        go_wp2_with fail
        refine HC.mono ?_
        rintro e w4 ⟨rfl, hb4⟩
        have HM4 := Lib.hid (HM3.out.same (hb4.block _ HM3.out.lt))
        have HRW4 := Lib.hid (ownsRow_same HRW3.out (fun g hg => hb4.block g (HRW3.out.lt g hg).2))
        have hB4 := Below.next HB3.out hb4
        have hl2 := HMT2.out.len
        clear hb4 HM3 HRW3
        go_wp2
        go_roundw
        case rel => exact ⟨L ++ [a], n, rfl, HRW4.out, hB4, HM4.out, HMT2.out, hl2, hnb.1, hnb.2, HR3.out⟩
        case measure =>
          obtain ⟨A2, c2, rfl, _, _⟩ := ownSlice HRW4.out
          simp [lenS] at *
          omega
    · have HO : Hid (ListNew (lstW ws) w (.returned (.slice A1 L.length c1)) wr) := Lib.hid (by
        rw [HR.out, lstF_stop (fun h => hpos h.1)]
        exact ListNew.of_own (ownsRow_lessR hown (Nat.le_succ _)) hbel)
      clear hown hbel hmap
      go_wp2
      go_ret
      exact HO.out
theorem rList_c {ws : List Int} {c : Nat} {A : Option Addr} {w : World} (hT : AtC ws c A w) : Calls Try.prog 61 #[.slice A ws.length c] w (IntsNew (lstW ws) w) := (rList_n hT).mono fun _ _ h => h.ints
theorem rList_any {ws : List Int} {c : Nat} {A : Option Addr} {w : World} {B : Nat} (hA : Rd (Value.int .u64) w B A ws) (hB : B ≤ w.heap.size) (hI : U64L ws) : Calls Try.prog 61 #[.slice A ws.length c] w (IntsNew (lstW ws) w) := rList_c (AtC.of hA hB hI)
end Go.Proofs.Ytkoelbdmpnelhaa
