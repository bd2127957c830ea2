/- The law BitsetWalks: its walk. -/
import Derived.Test.YtkfbgadcfinlfaaDoorBitBack
import Derived.Test.YtkfbgadcfinlfaaDoorBitAlgebra
namespace Go.Proofs.YtkfbgadcfinlfaaDoor
open Go.RowKit

/-- What is left of a set from a number on, rising. -/
def Left (zs : List Int) (F : Int) (R : List Int) : Prop := R.Pairwise (· < ·) ∧ ∀ m, m ∈ R ↔ (hasB zs m = true ∧ F ≤ m)
theorem Left.start {zs L : List Int} (h : Nums zs L) (F : Int) (hF : F ≤ 0) : Left zs F L := ⟨h.1, fun m => by
  rw [h.2 m]
  exact ⟨fun h1 => ⟨h1, by have := has_range h1; omega⟩, fun h1 => h1.1⟩⟩
theorem Left.step {zs R : List Int} {F x : Int} (h : Left zs F (x :: R)) : Left zs (x + 1) R := by
  have h1 := List.pairwise_cons.1 h.1
  refine ⟨h1.2, fun m => ?_⟩
  constructor
  · intro hm
    have := h1.1 m hm
    exact ⟨((h.2 m).1 (List.mem_cons_of_mem _ hm)).1, by omega⟩
  · rintro ⟨hm, hle⟩
    have hx := ((h.2 x).1 (List.mem_cons_self ..)).2
    rcases List.mem_cons.1 ((h.2 m).2 ⟨hm, by omega⟩) with e | e
    · omega
    · exact e
theorem Left.range {zs R : List Int} {F x : Int} (h : Left zs F (x :: R)) : F ≤ x ∧ 0 ≤ x ∧ x < 4096 := by
  have h1 := (h.2 x).1 (List.mem_cons_self ..)
  have h2 := has_range h1.1
  exact ⟨h1.2, h2.1, h2.2⟩
theorem Left.next {zs R : List Int} {F x : Int} (h : Left zs F (x :: R)) {w : World} {e : Ending} {w' : World} (hn : NextOut zs F w e w') : w = w' ∧ e = .returned (.tuple #[.int .i64 x, .bool true]) := by
  have hx := (h.2 x).1 (List.mem_cons_self ..)
  obtain ⟨rfl, ⟨m, rfl, hm, h1, h2⟩ | ⟨_, h2⟩⟩ := hn
  · refine ⟨rfl, ?_⟩
    have e : m = x := by
      rcases List.mem_cons.1 ((h.2 m).2 ⟨hm, h1⟩) with e | e
      · exact e
      · have h3 := (List.pairwise_cons.1 h.1).1 m e
        have := h2 x hx.2 h3
        rw [hx.1] at this
        cases this
    rw [e]
  · have := h2 x hx.2
    rw [hx.1] at this
    cases this
theorem Left.done {zs : List Int} {F : Int} (h : Left zs F []) {w : World} {e : Ending} {w' : World} (hn : NextOut zs F w e w') : w = w' ∧ e = .returned (.tuple #[.int .i64 0, .bool false]) := by
  obtain ⟨rfl, ⟨m, rfl, hm, h1, _⟩ | ⟨rfl, _⟩⟩ := hn
  · have := (h.2 m).2 ⟨hm, h1⟩
    cases this
  · exact ⟨rfl, rfl⟩

set_option maxRecDepth 100000 in
set_option maxHeartbeats 8000000 in
theorem Walks_walk (A : Option Addr) (xs : List Int) (ca : Nat) (w : World) (hA : SetAt w A xs ca) (hT : Tab w) :
    Calls Tryd.prog 5 #[.slice A xs.length ca] w fun e w' => e = .returned (.bool true) ∧ Below w.heap.size w w' := by
  by_cases hb1 : 200 < xs.length
  · have hb : (200 : Int) < (xs.length : Int) := by omega
    clear hb1 hA
    have hlv := Lib.hid (lives_any w hT)
    go_enter Tryd.func5, Tryd.ntmps5
    go_wp2_with fail
    refine hlv.out.mono ?_
    rintro e w1 ⟨rfl, hb⟩
    go_wp2
    go_ret
    exact ⟨rfl, hb⟩
  · have hs1 : (xs.length : Int) ≤ 200 := by omega
    clear hb1
    have hlv := Lib.hid (lives_any w hT)
    have HT := Lib.hid hT
    have HW := Lib.hid hA.words
    clear hT
    go_enter Tryd.func5, Tryd.ntmps5
    go_wp2_with fail
    refine hlv.out.mono ?_
    rintro e w1 ⟨rfl, hb⟩
    have hA1 := hA.below hb
    have hW1 := hb
    clear hb hA hlv
    go_wp2_with fail
    refine Calls.mono (List_any A xs ca _ hA1.rd HW.out hA1.cap hA1.top (HT.out.below hW1)) ?_
    rintro e w2 ⟨L, LA, lc, rfl, hrl, hnl, hb⟩
    have hA2 := hA1.below hb
    have hW2 := Below.next hW1 hb
    have HN := Lib.hid hnl
    have hLn := hnl.len
    clear hb hW1 hA1 hnl
    go_wp2_with fail
    refine Calls.mono (Of_any LA L lc _ hrl (by omega)) ?_
    rintro e w3 ⟨oA, oc, rfl, hro, _, _, hb⟩
    rw [of_nums xs L HW.out HN.out] at hro ⊢
    have hA3 := hA2.below hb
    have hl3 := (hrl.below hb).more hb.size
    have hW3 := Below.next hW2 hb
    clear hb hW2 hA2 hrl
    go_wp2_with fail
    refine Calls.mono (Union_any A none xs [] ca 0 _ hA3.rd Rd.nil HW.out (SetAt.nil w).words hA3.cap hA3.top (by simp) (by simp)) ?_
    rintro e w4 ⟨uA, uc, rfl, hru, _, _, hb⟩
    have hA4 := hA3.below hb
    have hl4 := (hl3.below hb).more hb.size
    have ho4 := (hro.below hb).more hb.size
    have hW4 := Below.next hW3 hb
    clear hb hW3 hA3 hl3 hro
    go_wp2_with fail
    refine Calls.mono (Same_refl oA uA _ _ _ _ ho4 hru (trim_small orF xs [])) ?_
    rintro e w5 ⟨rfl, hd⟩
    have hb := hd.below w4.heap.size
    have hA5 := hA4.below hb
    have hl5 := (hl4.below hb).more hb.size
    have hW5 := Below.next hW4 hb
    clear hb hW4 hA4 hl4 ho4 hru hd
    have hce := nums_count xs L HW.out HN.out
    go_wp2_with fail
    refine Calls.mono (Count_any A xs ca _ hA5.rd HW.out hA5.cap hA5.top) ?_
    rintro e w' ⟨rfl, rfl⟩
    rw [← hce]
    clear hce
    have HT5 := Lib.hid (HT.out.below hW5)
    go_wp2
    go_loop [4, 33] (fun f i => ∃ (k : Nat) (F : Int), k ≤ L.length ∧ i = .int .i64 k ∧ f = .int .i64 F ∧ F ≤ 4096 ∧ -1099511627776 ≤ F ∧ Hid (Left xs F (L.drop k))) (fun _ i => L.length - (intOf i).toNat)
    case atStart => exact ⟨0, _, Nat.zero_le _, rfl, rfl, by omega, by omega, Left.start HN.out _ (by omega)⟩
    case round =>
      obtain ⟨k, F, hk, rfl, rfl, hF, hF0, HL⟩ := hrel
      have hnx := Lib.hid (Next_any A xs ca F _ hA5.rd HW.out hA5.cap hA5.top HT5.out (by omega))
      by_cases hlt : k < L.length
      · obtain ⟨b, off, rfl, hb, hcell⟩ := hl5.at_ hlt
        have hleft := HL.out
        rw [List.drop_eq_getElem_cons hlt] at hleft
        generalize L[k] = x at hcell hleft
        have hr := hleft.range
        have HL2 := Lib.hid hleft
        have HS := Lib.hid hleft.step
        clear hleft HL
        obtain ⟨hr0, hr1, hr2⟩ := hr
        have hkl : (k : Int) < (L.length : Int) := by omega
        go_wp2_with fail
        refine hnx.out.mono ?_
        intro e w' hn
        obtain ⟨rfl, rfl⟩ := HL2.out.next hn
        clear hn hnx
        go_wp2
        go_round
        case rel => exact ⟨k + 1, x + 1, by omega, by go_num, by go_num, by omega, by omega, HS.out⟩
        case measure => simp [intOf]; omega
      · have hleft := HL.out
        rw [List.drop_eq_nil_of_le (by omega)] at hleft
        have HL2 := Lib.hid hleft
        clear hleft HL
        go_wp2_with fail
        refine hnx.out.mono ?_
        intro e w' hn
        obtain ⟨rfl, rfl⟩ := HL2.out.done hn
        clear hn hnx
        go_wp2
        go_ret
        exact ⟨rfl, hW5⟩

end Go.Proofs.YtkfbgadcfinlfaaDoor
