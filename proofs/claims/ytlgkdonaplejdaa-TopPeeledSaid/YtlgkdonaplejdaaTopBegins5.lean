/- The question of fixed answers of gangliontop's fifth stage. -/
import Derived.Test.YtlgkdonaplejdaaChApart
import Derived.Test.YtlgkdonaplejdaaEdFarL
namespace Go.Proofs.Ytlgkdonaplejdaa
open Go.RowKit Go.Shelf Go.Sort Go.Lib

section
variable {w w' : World} {α : Type} {f : α → Value} {B b : Nat}
theorem rd_lit1 {x : α} (hb : b < B) (h0 : w.cell? ⟨b, 0, none⟩ = some (f x)) : Rd f w B (some ⟨b, 0, none⟩) [x] := fun k z hz => by
  match k, hz with
  | 0, hz => simp at hz; subst hz; exact ⟨b, 0, rfl, hb, h0⟩
theorem rd_lit2 {x y : α} (hb : b < B) (h0 : w.cell? ⟨b, 0, none⟩ = some (f x)) (h1 : w.cell? ⟨b, 1, none⟩ = some (f y)) : Rd f w B (some ⟨b, 0, none⟩) [x, y] := fun k z hz => by
  match k, hz with
  | 0, hz => simp at hz; subst hz; exact ⟨b, 0, rfl, hb, h0⟩
  | 1, hz => simp at hz; subst hz; exact ⟨b, 0, rfl, hb, h1⟩
theorem vecB_lit1 {x : Int} (hb : b < B) (h0 : w.cell? ⟨b, 0, none⟩ = some (.int .i32 x)) (hx : -2147483648 ≤ x ∧ x ≤ 2147483647) : VecB w B (some ⟨b, 0, none⟩) [x] :=
  ⟨rd_lit1 hb h0, by simp, by rw [Hid]; intro z hz; simp at hz; subst hz; exact hx⟩
theorem items_lit2 {x y : ItT} (hb : b < B) (h0 : w.cell? ⟨b, 0, none⟩ = some (.int .u64 x.id)) (h1 : w.cell? ⟨b, 1, none⟩ = some (.slice x.A x.vec.length x.cap)) (h2 : w.cell? ⟨b, 2, none⟩ = some (.int .u64 x.tags))
    (h3 : w.cell? ⟨b, 3, none⟩ = some (.int .u64 y.id)) (h4 : w.cell? ⟨b, 4, none⟩ = some (.slice y.A y.vec.length y.cap)) (h5 : w.cell? ⟨b, 5, none⟩ = some (.int .u64 y.tags)) (hx : VecB w B x.A x.vec) (hy : VecB w B y.A y.vec) : ItemsAt w B (some ⟨b, 0, none⟩) [x, y] := fun k z hz => by
  match k, hz with
  | 0, hz => simp at hz; subst hz; exact ⟨⟨b, 0, rfl, hb, h0, h1, h2⟩, hx⟩
  | 1, hz => simp at hz; subst hz; exact ⟨⟨b, 0, rfl, hb, h3, h4, h5⟩, hy⟩
end
theorem far_at {V A I : Option Addr} {vs zs : List Int} {its : List ItT} {cv c ci lv lz li : Nat} {d i s : Int} {b : Bool} {w : World} (e1 : vs.length = lv) (e2 : zs.length = lz) (e3 : its.length = li) (hf : farS vs zs its = ((d, i), s)) (hb : decide (0 < zs.length) = b)
    (hV : VecB w w.heap.size V vs) (hA : Rd (Value.int .i64) w w.heap.size A zs) (hI : ItemsAt w w.heap.size I its) (hl : zs.length ≤ 100000 ∧ its.length ≤ 100000) :
    Calls Try.prog 68 #[.slice V lv cv, .slice A lz c, .slice I li ci] w fun e w' => e = .returned (.tuple #[.agg #[.int .u64 d, .int .u64 i, .int .i64 s], .bool b]) ∧ Below w.heap.size w w' := by
  subst e1 e2 e3 hb
  exact (Far_any V vs cv A zs c I its ci w hV hA hI hl.1 hl.2).mono fun _ _ ⟨he, hb⟩ => ⟨by rw [he, hf]; rfl, hb⟩
theorem far_lit5 (A1 A2 : Option Addr) : farS [0] [4, 5] [⟨0, A1, [3], 1, 0⟩, ⟨0, A2, [1], 1, 0⟩] = ((9, 0), 4) := by kernel_rfl
theorem split_one {its : List ItT} {M : List TagC} (h : M.length = 1) : (splitGo its (1 : Int) M [] []).1.length = 1 := by
  obtain ⟨c, rfl⟩ := List.length_eq_one_iff.1 h
  simp [splitGo, nearC]
theorem apart_one (A : Option Addr) (z : SpotT) (w : World) (hA : RdS w w.heap.size A [z]) :
    Calls Try.prog 18 #[.slice A 1 1, .slice none 0 0] w fun e W => ∃ A1 c1, e = .returned (.slice A1 1 c1) ∧ Below w.heap.size w W := by
  refine Calls.mono (Apart_any A [z] 1 none [] 0 w hA ItemsAt.nil (by simp)) ?_
  rintro e W ⟨M, hO, A1, c1, rfl, -, hb⟩
  have hl : (spotsC (splitGo [] ((([z] : List SpotT).length : Nat) : Int) M [] []).1).length = 1 := by
    rw [spotsC_len]
    exact split_one (by rw [hO.len]; rfl)
  rw [hl]
  exact ⟨A1, c1, rfl, hb⟩
theorem rdS_lit1 {w : World} {B b : Nat} {z : SpotT} (hb : b < B) (h0 : w.cell? ⟨b, 0, none⟩ = some (.int .u64 z.1.1)) (h1 : w.cell? ⟨b, 1, none⟩ = some (.int .u64 z.1.2)) (h2 : w.cell? ⟨b, 2, none⟩ = some (.int .i64 z.2)) : RdS w B (some ⟨b, 0, none⟩) [z] := fun k s hs => by
  match k, hs with
  | 0, hs => simp at hs; subst hs; exact ⟨b, 0, rfl, hb, h0, h1, h2⟩

set_option maxRecDepth 100000 in
set_option maxHeartbeats 4000000 in
theorem begins5_any (w : World) : Calls Try.prog 67 #[] w fun e w' => e = .returned (.bool true) ∧ Below w.heap.size w w' := by
  go_enter Try.func67, Try.ntmps67
  go_wp2_with fail
  refine Calls.mono (far_at (vs := [0]) (zs := [4, 5]) (its := [⟨0, some ⟨w.heap.size + 1 + 1, 0, none⟩, [3], 1, 0⟩, ⟨0, some ⟨w.heap.size + 1 + 1 + 1, 0, none⟩, [1], 1, 0⟩]) rfl rfl rfl (far_lit5 _ _) rfl ?a1 ?a2 ?a3 ⟨by simp, by simp⟩) ?_
  case a1 => exact vecB_lit1 (by go_size) (by go_cell) (by decide)
  case a2 => exact rd_lit2 (by go_size) (by go_cell) (by go_cell)
  case a3 => exact items_lit2 (by go_size) (by go_cell) (by go_cell) (by go_cell) (by go_cell) (by go_cell) (by go_cell) (vecB_lit1 (by go_size) (by go_cell) (by decide)) (vecB_lit1 (by go_size) (by go_cell) (by decide))
  rintro e w1 ⟨rfl, hb⟩
  have hb1 : Below w.heap.size w w1 := (((((((Below.refl _ w).alloc (Nat.le_refl _) _).alloc (by go_size) _).alloc (by go_size) _).alloc (by go_size) _).alloc (by go_size) _)).trans (hb.mono (by go_size))
  have HB1 := Lib.hid hb1
  clear hb hb1
  have b0 : (w1.alloc (.cells #[.int .u64 9, .int .u64 0, .int .i64 4] 37)).cell? ⟨w1.heap.size, 0, none⟩ = some (.int .u64 9) := by go_cell
  have b1 : (w1.alloc (.cells #[.int .u64 9, .int .u64 0, .int .i64 4] 37)).cell? ⟨w1.heap.size, 1, none⟩ = some (.int .u64 0) := by go_cell
  have b2 : (w1.alloc (.cells #[.int .u64 9, .int .u64 0, .int .i64 4] 37)).cell? ⟨w1.heap.size, 2, none⟩ = some (.int .i64 4) := by go_cell
  have hD : w1.heap.size < (w1.alloc (.cells #[.int .u64 9, .int .u64 0, .int .i64 4] 37)).heap.size := by simp
  have HB2 := Lib.hid (HB1.out.alloc HB1.out.size (.cells #[.int .u64 9, .int .u64 0, .int .i64 4] 37))
  go_upto_region 2 with (fail)
  generalize w1.alloc (.cells #[.int .u64 9, .int .u64 0, .int .i64 4] 37) = X at *
  generalize w1.heap.size = D at *
  have HB3 := Lib.hid (HB2.out.alloc HB2.out.size (.cells #[.int .u64 9, .int .u64 0, .int .i64 4] 37))
  have HX := Lib.hid (below_new3 X (.cells #[.int .u64 9, .int .u64 0, .int .i64 4] 37))
  have HR : Hid (RdS (X.alloc (.cells #[.int .u64 9, .int .u64 0, .int .i64 4] 37)) (X.alloc (.cells #[.int .u64 9, .int .u64 0, .int .i64 4] 37)).heap.size (some ⟨X.heap.size, 0, none⟩) [((9, 0), 4)]) := rdS_lit1 (by simp) (by go_cell) (by go_cell) (by go_cell)
  go_wp2_with fail
  refine Calls.mono (apart_one _ ((9, 0), 4) _ HR.out) ?_
  rintro e w3 ⟨A1, c1, rfl, hb⟩
  have hb4 : Below X.heap.size X w3 := HX.out.trans (hb.mono HX.out.size)
  have e2 := (hb4.cell (p := ⟨D, 2, none⟩) hD).trans b2
  have HB4 := Lib.hid (HB3.out.trans (hb.mono HB3.out.size))
  clear hb hb4 HR HX HB3 HB2 HB1 b0 b1 b2
  go_wp2
  go_ret
  exact ⟨rfl, HB4.out⟩

end Go.Proofs.Ytlgkdonaplejdaa
