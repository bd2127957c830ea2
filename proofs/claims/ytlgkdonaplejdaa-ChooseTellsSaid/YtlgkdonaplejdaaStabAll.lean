/- slices.SortStableFunc at candidates, by contract: in order, and equal ones as they were. -/
import Derived.Test.YtlgkdonaplejdaaStab
import Derived.Test.YtlgkdonaplejdaaStabBlk
namespace Go.Proofs.Ytlgkdonaplejdaa
open Go.RowKit Go.Shelf Go.Sort Go.Lib

/-- What the stable sort leaves. -/
def StableC (w : World) (g : Nat) (D : List TagC) (e : Ending) (W : World) : Prop := ∃ M : List TagC, M.Perm D ∧ M.Pairwise ltX ∧ RowC w g M e W

section
variable {w : World} {g : Nat} {d : Array TagC}
set_option maxRecDepth 100000 in
set_option maxHeartbeats 16000000 in
theorem stable_any (hH : HoldsK encC 4 w g 0 d) (hg : g < w.heap.size) (D : List TagC) (N mm cap : Nat) (os : Array Obj) (hN : D.length = N) (hd : d.size = N) (hNs : N < 1000000) (hr : Rises D) :
    Calls Try.prog 167 #[.slice (some ⟨g, 0, none⟩) N cap, .int .i64 N, .func (.func 125) #[] #[]] (SwC w g mm D os) (StableC w g D) := by
  have HINS := Lib.hid (fun A C S mm os za zb ha hb hN hr => insertion_any hH hg A C S N mm cap os za zb ha hb hN hd hNs hr)
  have HSYM := Lib.hid (fun n => symMerge_all hH hg N cap hd hNs n)
  have HDL := Lib.hid hN
  have HI0 := Lib.hid (Ins1.start hr)
  have N1 : N < 1000000 := hNs
  clear hH hN hd hr
  go_enter Try.func167, Try.ntmps167
  go_wp2
  go_loopw [7, 8] (fun va vb wr => ∃ (a b m : Nat) (Done : List (List TagC)) (Rest : List TagC) (os : Array Obj), va = .int .i64 a ∧ vb = .int .i64 b ∧ a ≤ N ∧ Hid (Ins1 D Done Rest ∧ Done.flatten.length = a ∧ a + Rest.length = N ∧ b = a + 20) ∧ wr = SwC w g m (Done.flatten ++ Rest) os) (fun va _ _ => N - (intOf va).toNat)
  case atStart => exact ⟨0, 20, mm, [], D, os, rfl, rfl, Nat.zero_le _, ⟨HI0.out, rfl, by have := HDL.out; omega, rfl⟩, rfl⟩
  case round =>
    obtain ⟨a, b, m, Done, Rest, os, rfl, rfl, ha, HI, rfl⟩ := hrel
    by_cases hlt : b ≤ N
    · obtain ⟨X, R', rfl, hX⟩ : ∃ X R', Rest = X ++ R' ∧ X.length = 20 := ⟨Rest.take 20, Rest.drop 20, (List.take_append_drop _ _).symm, by have := HI.out.2.2.1; have := HI.out.2.2.2; rw [List.length_take]; omega⟩
      have hrx : Rises X := by have h := HI.out.1.rises; unfold Rises at h ⊢; exact (List.pairwise_append.1 h).1
      have j1 : (a : Int) = (Done.flatten.length : Int) := by have := HI.out.2.1; omega
      have j2 : (b : Int) = ((Done.flatten.length + X.length : Nat) : Int) := by have := HI.out.2.1; have := HI.out.2.2.2; omega
      have HC := Lib.hid (fun mm os => HINS.out Done.flatten X R' mm os _ _ j1 j2 (by have h1 := HI.out.2.1; have h2 := HI.out.2.2.1; rw [List.length_append] at h2; omega) hrx)
      have hlz : (b : Int) ≤ (N : Int) := by omega
      have HX := Lib.hid hX
      clear j1 j2 hrx hX
      go_wp2_with fail
      refine Calls.mono (HC.out _ _) ?_
      rintro e W ⟨B, p1, p2, rfl, m2, os2, rfl⟩
      have HB := Lib.hid (And.intro p1 p2)
      have HI2 := Lib.hid (HI.out.1.next HX.out p1 p2)
      have hfl : (Done ++ [B]).flatten.length = b := by
        rw [List.flatten_append, List.length_append]
        simp only [List.flatten_cons, List.flatten_nil, List.append_nil]
        have h1 := HI.out.2.1
        have h2 := p1.length_eq
        have h3 := HX.out
        have h4 := HI.out.2.2.2
        omega
      have hrl : b + R'.length = N := by have h2 := HI.out.2.2.1; have := HX.out; have := HI.out.2.2.2; rw [List.length_append] at h2; omega
      have HL := Lib.hid (And.intro hfl hrl)
      have HE : Hid (Done.flatten ++ (B ++ R') = (Done ++ [B]).flatten ++ R') := by rw [Hid]; simp
      clear p1 p2 HC hfl hrl
      go_wp2
      go_roundw
      case rel => exact ⟨b, b + 20, m2, Done ++ [B], R', os2, rfl, by go_num, hlt, ⟨HI2.out, HL.out.1, HL.out.2, rfl⟩, by rw [HE.out]⟩
      case measure => have := HI.out.2.2.2; simp [intOf]; omega
    · have j1 : (a : Int) = (Done.flatten.length : Int) := by have := HI.out.2.1; omega
      have j2 : (N : Int) = ((Done.flatten.length + Rest.length : Nat) : Int) := by have := HI.out.2.1; have := HI.out.2.2.1; omega
      have HC := Lib.hid (fun mm os => HINS.out Done.flatten Rest [] mm os _ _ j1 j2 (by have h1 := HI.out.2.1; have h2 := HI.out.2.2.1; rw [List.length_nil]; omega) HI.out.1.rises)
      rw [List.append_nil] at HC
      have hlz : ¬ (b : Int) ≤ (N : Int) := by omega
      clear j1 j2
      go_wp2_with fail
      refine Calls.mono (HC.out _ _) ?_
      rintro e W ⟨B, p1, p2, rfl, m2, os2, rfl⟩
      have HB := Lib.hid (HI.out.1.done (by have := HI.out.2.2.1; have := HI.out.2.2.2; omega) p1 p2)
      rw [List.append_nil]
      clear p1 p2 HC HI
      go_wp2
      go_loopw [6, 7, 8, 9] (fun vs va vb vm wr => ∃ (bs m : Nat) (Full : List (List TagC)) (Last : List TagC) (os : Array Obj), vs = .int .i64 bs ∧ 20 ≤ bs ∧ bs < 2000000 ∧ Hid (Blk bs D Full Last) ∧ wr = SwC w g m (Full.flatten ++ Last) os) (fun vs _ _ _ _ => N - (intOf vs).toNat)
      case atStart => exact ⟨20, m2, Done, B, os2, rfl, by omega, by omega, HB.out, rfl⟩
      case round =>
        clear HB
        obtain ⟨bs, m, Full, Last, os, rfl, hbs, hbs2, HK, rfl⟩ := hrel
        by_cases hlt2 : bs < N
        · have hlz2 : (bs : Int) < (N : Int) := by omega
          have HP0 := Lib.hid (Pass.start HK.out)
          clear HK
          go_wp2
          go_loopw [7, 8] (fun va vb wr => ∃ (a b m : Nat) (Done Todo : List (List TagC)) (La : List TagC) (os : Array Obj), va = .int .i64 a ∧ vb = .int .i64 b ∧ a ≤ N ∧ Hid (Pass bs D Done Todo La ∧ Done.flatten.length = a ∧ b = a + 2 * bs) ∧ wr = SwC w g m (Done.flatten ++ (Todo.flatten ++ La)) os) (fun va _ _ => N - (intOf va).toNat)
          case atStart => exact ⟨0, 2 * bs, m, [], Full, Last, os, rfl, by go_num, Nat.zero_le _, ⟨HP0.out, rfl, by omega⟩, rfl⟩
          case round =>
            clear HP0
            obtain ⟨a, b, m, Done, Todo, La, os, rfl, rfl, ha, HI, rfl⟩ := hrel
            have HLN : Hid (Done.flatten.length + (Todo.length * bs + La.length) = N) := by have h := HI.out.1.len; have := HDL.out; rw [Hid]; omega
            by_cases hlt : b ≤ N
            · obtain ⟨X, Y, T, rfl⟩ : ∃ X Y T, Todo = X :: Y :: T := by
                match Todo, HI.out, HLN.out with
                | [], h, h2 => exfalso; have := h.2.1; have := h.2.2; have := h.1.last.1; simp only [List.length_nil, Nat.zero_mul] at h2; omega
                | [X], h, h2 => exfalso; have := h.2.1; have := h.2.2; have := h.1.last.1; simp only [List.length_cons, List.length_nil, Nat.zero_add, Nat.one_mul] at h2; omega
                | X :: Y :: T, _, _ => exact ⟨X, Y, T, rfl⟩
              have hX := HI.out.1.todo X (by simp)
              have hY := HI.out.1.todo Y (by simp)
              obtain ⟨c, hc⟩ : ∃ c, a + bs = c := ⟨_, rfl⟩
              have hcz : (a : Int) + (bs : Int) = (c : Int) := by omega
              have j1 : (a : Int) = (Done.flatten.length : Int) := by have := HI.out.2.1; omega
              have j2 : (c : Int) = ((Done.flatten.length + X.length : Nat) : Int) := by have := HI.out.2.1; have := hX.1; omega
              have j3 : (b : Int) = ((Done.flatten.length + X.length + Y.length : Nat) : Int) := by have := HI.out.2.1; have := HI.out.2.2; have := hX.1; have := hY.1; omega
              have hS : Done.flatten.length + X.length + Y.length + (T.flatten ++ La).length = N := by
                have h := HDL.out
                have h2 := HI.out.1.perm.length_eq
                simp only [List.flatten_cons, List.length_append] at h2 ⊢
                omega
              have HC := Lib.hid (fun mm os => HSYM.out (X.length + Y.length) Done.flatten X Y (T.flatten ++ La) mm os _ _ _ (Nat.le_refl _) (by rw [hX.1]; omega) (by rw [hY.1]; omega) j1 j2 j3 hS hX.2 hY.2 HI.out.1.cross)
              have HEE : Hid (Done.flatten ++ ((X :: Y :: T).flatten ++ La) = Done.flatten ++ (X ++ (Y ++ (T.flatten ++ La)))) := by rw [Hid]; simp
              have hlz : (b : Int) ≤ (N : Int) := by omega
              have HXY := Lib.hid (And.intro hX.1 hY.1)
              have HABC := Lib.hid hc
              clear j1 j2 j3 hX hY hS hc
              rw [HEE.out]
              go_wp2_with fail
              refine Calls.mono (HC.out _ _) ?_
              rintro e W ⟨M, p1, p2, rfl, m2, os2, rfl⟩
              have HI2 := Lib.hid (HI.out.1.next p1 p2)
              have hfl : (Done ++ [M]).flatten.length = b := by
                rw [List.flatten_append, List.length_append]
                simp only [List.flatten_cons, List.flatten_nil, List.append_nil]
                have h1 := HI.out.2.1
                have h2 := p1.length_eq
                rw [List.length_append, HXY.out.1, HXY.out.2] at h2
                have h4 := HI.out.2.2
                omega
              have HL := Lib.hid hfl
              have HE : Hid (Done.flatten ++ (M ++ (T.flatten ++ La)) = (Done ++ [M]).flatten ++ (T.flatten ++ La)) := by rw [Hid]; simp
              clear p1 p2 HC hfl HEE
              go_wp2
              go_roundw
              case rel => exact ⟨b, b + 2 * bs, m2, Done ++ [M], T, La, os2, rfl, by go_num, hlt, ⟨HI2.out, HL.out, rfl⟩, by rw [HE.out]⟩
              case measure => have := HI.out.2.2; simp [intOf]; omega
            · have hlz : ¬ (b : Int) ≤ (N : Int) := by omega
              obtain ⟨c, hc⟩ : ∃ c, a + bs = c := ⟨_, rfl⟩
              have hcz : (a : Int) + (bs : Int) = (c : Int) := by omega
              have HC1 := Lib.hid hc
              clear hc
              match Todo, HI, HLN with
              | X :: Y :: T, HI, HLN =>
                exfalso
                have h1 := HI.out.2.1
                have h2 := HI.out.2.2
                have h3 := HLN.out
                rw [List.length_cons, List.length_cons, Nat.add_mul, Nat.add_mul] at h3
                omega
              | [], HI, HLN =>
                have hcN : ¬ (c : Int) < (N : Int) := by
                  have h1 := HI.out.2.1
                  have h3 := HLN.out
                  have h4 := HI.out.1.last.1
                  have h5 := HC1.out
                  simp only [List.length_nil, Nat.zero_mul] at h3
                  omega
                have HB2 := Lib.hid HI.out.1.end0
                have HE : Hid (Done.flatten ++ (([] : List (List TagC)).flatten ++ La) = Done.flatten ++ La) := by rw [Hid]; simp
                rw [HE.out]
                clear HI HLN HC1 HE
                go_wp2
                go_roundw
                case rel => exact ⟨2 * bs, m, Done, La, os, by go_num, by omega, by omega, HB2.out, rfl⟩
                case measure => simp [intOf]; omega
              | [X], HI, HLN =>
                have hX := HI.out.1.todo X (by simp)
                have hl : Done.flatten.length + X.length + La.length = N := by
                  have h3 := HLN.out
                  have := hX.1
                  simp only [List.length_cons, List.length_nil, Nat.zero_add, Nat.one_mul] at h3
                  omega
                have HEE : Hid (Done.flatten ++ ([X].flatten ++ La) = Done.flatten ++ (X ++ La)) := by rw [Hid]; simp
                rw [HEE.out]
                by_cases h0 : La.length = 0
                · obtain rfl := List.eq_nil_of_length_eq_zero h0
                  have hcN : ¬ (c : Int) < (N : Int) := by
                    have h1 := HI.out.2.1
                    have h5 := HC1.out
                    have := hX.1
                    simp only [List.length_nil] at hl
                    omega
                  have HB2 := Lib.hid (HI.out.1.end1 (M := X) (by simp) hX.2)
                  rw [List.append_nil]
                  clear HI HLN HC1 HEE hX hl h0
                  go_wp2
                  go_roundw
                  case rel => exact ⟨2 * bs, m, Done, X, os, by go_num, by omega, by omega, HB2.out, rfl⟩
                  case measure => simp [intOf]; omega
                · have hcN : (c : Int) < (N : Int) := by
                    have h1 := HI.out.2.1
                    have h5 := HC1.out
                    have := hX.1
                    omega
                  have j1 : (a : Int) = (Done.flatten.length : Int) := by have := HI.out.2.1; omega
                  have j2 : (c : Int) = ((Done.flatten.length + X.length : Nat) : Int) := by have := HI.out.2.1; have := hX.1; have := HC1.out; omega
                  have j3 : (N : Int) = ((Done.flatten.length + X.length + La.length : Nat) : Int) := by omega
                  have HC := Lib.hid (fun mm os => HSYM.out (X.length + La.length) Done.flatten X La [] mm os _ _ _ (Nat.le_refl _) (by rw [hX.1]; omega) (by omega) j1 j2 j3 (by rw [List.length_nil]; omega) hX.2 HI.out.1.last.2 HI.out.1.crossL)
                  rw [List.append_nil] at HC
                  clear j1 j2 j3 hX hl h0 HEE
                  go_wp2_with fail
                  refine Calls.mono (HC.out _ _) ?_
                  rintro e W ⟨M, p1, p2, rfl, m2, os2, rfl⟩
                  have HB2 := Lib.hid (HI.out.1.end1 p1 p2)
                  rw [List.append_nil]
                  clear HI HLN HC1 HC p1 p2
                  go_wp2
                  go_roundw
                  case rel => exact ⟨2 * bs, m2, Done, M, os2, by go_num, by omega, by omega, HB2.out, rfl⟩
                  case measure => simp [intOf]; omega
        · have HA := Lib.hid (HK.out.all (by have := HDL.out; omega))
          have hlz2 : ¬ (bs : Int) < (N : Int) := by omega
          clear HK
          go_wp2
          exact bodyPost_end (results_none rfl _ _ _) rfl ⟨_, HA.out.2, HA.out.1, rfl, m, os, rfl⟩
end

end Go.Proofs.Ytlgkdonaplejdaa
