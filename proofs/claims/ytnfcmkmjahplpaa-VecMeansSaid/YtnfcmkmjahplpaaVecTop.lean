/- What the stage's laws ask first, and small words for vectors that lie in memory. -/
import Derived.Test.YtnfcmkmjahplpaaVecCheck
namespace Go.Proofs.Ytnfcmkmjahplpaa
open Go.RowKit Go.Shelf

theorem Dist_n (A B : Option Addr) (xs ys : List Int) (la lb ca cb : Nat) (w : World) (ea : xs.length = la) (eb : ys.length = lb) (hA : Rd (Value.int .i32) w w.heap.size A xs) (hB : Rd (Value.int .i32) w w.heap.size B ys) (hx : xs.length ≤ 9223372036854775807) (hy : ys.length ≤ 9223372036854775807)
    (hxs : Hid (∀ z ∈ xs, -2147483648 ≤ z ∧ z ≤ 2147483647)) (hys : Hid (∀ z ∈ ys, -2147483648 ≤ z ∧ z ≤ 2147483647)) :
    Calls Try.prog 11 #[.slice A la ca, .slice B lb cb] w fun e w' => e = .returned (.int .u64 (satN (distN xs ys (max la lb)))) ∧ Below w.heap.size w w' := by
  subst ea
  subst eb
  exact Dist_any A B xs ys ca cb w hA hB hx hy hxs hys
theorem Dot_n (A B : Option Addr) (xs ys : List Int) (la lb ca cb : Nat) (w : World) (ea : xs.length = la) (eb : ys.length = lb) (hA : Rd (Value.int .i32) w w.heap.size A xs) (hB : Rd (Value.int .i32) w w.heap.size B ys) (hx : xs.length ≤ 9223372036854775807) (hy : ys.length ≤ 9223372036854775807)
    (hxs : Hid (∀ z ∈ xs, -2147483648 ≤ z ∧ z ≤ 2147483647)) (hys : Hid (∀ z ∈ ys, -2147483648 ≤ z ∧ z ≤ 2147483647)) :
    Calls Try.prog 15 #[.slice A la ca, .slice B lb cb] w fun e w' => e = .returned (.int .i64 (wrap64 (dotZ xs ys (max la lb)))) ∧ Below w.heap.size w w' := by
  subst ea
  subst eb
  exact Dot_any A B xs ys ca cb w hA hB hx hy hxs hys

/-- A vector of numbers of 32 bits lies at A. -/
structure Vec (w : World) (A : Option Addr) (zs : List Int) : Prop where
  rd : Rd (Value.int .i32) w w.heap.size A zs
  len : zs.length ≤ 9223372036854775807
  all : ∀ z ∈ zs, -2147483648 ≤ z ∧ z ≤ 2147483647
theorem Vec.below {w w' : World} {A : Option Addr} {zs : List Int} (h : Vec w A zs) (hb : Below w.heap.size w w') : Vec w' A zs := ⟨(h.rd.below hb).more hb.size, h.len, h.all⟩
theorem Vec.nil {w : World} {A : Option Addr} : Vec w A [] := ⟨Rd.nil, by simp, by simp⟩
theorem Vec.take {w : World} {A : Option Addr} {zs : List Int} (h : Vec w A zs) (k : Nat) : Vec w A (zs.take k) := by
  refine ⟨fun j z hj => ?_, by rw [List.length_take]; have := h.len; omega, fun z hz => h.all z (List.mem_of_mem_take hz)⟩
  rw [List.getElem?_take] at hj
  split at hj
  · exact h.rd j z hj
  · cases hj
theorem Vec.drop {w : World} {b off : Nat} {zs : List Int} (h : Vec w (some ⟨b, off, none⟩) zs) (k : Nat) : Vec w (some ⟨b, off + k, none⟩) (zs.drop k) := by
  refine ⟨fun j z hj => ?_, by rw [List.length_drop]; have := h.len; omega, fun z hz => h.all z (List.mem_of_mem_drop hz)⟩
  rw [List.getElem?_drop] at hj
  obtain ⟨b', off', he, hlt, hc⟩ := h.rd _ z hj
  injection he with he
  injection he with h3 h4
  subst h3
  subst h4
  exact ⟨b, off + k, rfl, hlt, by rw [Nat.add_assoc]; exact hc⟩

theorem Vec.alloc {w : World} {A : Option Addr} {zs : List Int} (h : Vec w A zs) (o : Obj) : Vec (w.alloc o) A zs := h.below ((Below.refl _ w).alloc (Nat.le_refl _) o)
theorem Vec.new (w : World) (t : TypeId) (zs : List Int) (hl : zs.length ≤ 9223372036854775807) (ha : ∀ z ∈ zs, -2147483648 ≤ z ∧ z ≤ 2147483647) (cs : Array Value) (hc : cs = (zs.map (Value.int .i32)).toArray) :
    Vec (w.alloc (.cells cs t)) (some ⟨w.heap.size, 0, none⟩) zs := by
  subst hc
  refine ⟨fun k z hz => ⟨w.heap.size, 0, rfl, by simp, ?_⟩, hl, ha⟩
  rw [Nat.zero_add]
  have h1 := World.alloc_heap_new w (.cells (zs.map (Value.int .i32)).toArray t)
  unfold World.cell?
  simp only [h1]
  simp [hz]

theorem Dist_v {A B : Option Addr} {xs ys : List Int} {w w' : World} (hA : Vec w A xs) (hB : Vec w B ys) (hb : Below w.heap.size w w') (la lb ca cb : Nat) (ea : xs.length = la) (eb : ys.length = lb) :
    Calls Try.prog 11 #[.slice A la ca, .slice B lb cb] w' fun e w'' => e = .returned (.int .u64 (satN (distN xs ys (max la lb)))) ∧ Below w.heap.size w w'' :=
  (Dist_n A B xs ys la lb ca cb w' ea eb (hA.below hb).rd (hB.below hb).rd hA.len hB.len (Lib.hid hA.all) (Lib.hid hB.all)).mono fun _ _ h => ⟨h.1, Below.next hb h.2⟩
theorem Dot_v {A B : Option Addr} {xs ys : List Int} {w w' : World} (hA : Vec w A xs) (hB : Vec w B ys) (hb : Below w.heap.size w w') (la lb ca cb : Nat) (ea : xs.length = la) (eb : ys.length = lb) :
    Calls Try.prog 15 #[.slice A la ca, .slice B lb cb] w' fun e w'' => e = .returned (.int .i64 (wrap64 (dotZ xs ys (max la lb)))) ∧ Below w.heap.size w w'' :=
  (Dot_n A B xs ys la lb ca cb w' ea eb (hA.below hb).rd (hB.below hb).rd hA.len hB.len (Lib.hid hA.all) (Lib.hid hB.all)).mono fun _ _ h => ⟨h.1, Below.next hb h.2⟩
theorem Check_v {A : Option Addr} {zs : List Int} {w w' : World} (hA : Vec w A zs) (hb : Below w.heap.size w w') (ca : Nat) (dim : Int) :
    Calls Try.prog 14 #[.slice A zs.length ca, .int .i64 dim] w' fun e w'' => e = .returned (.int .i64 (chkN zs dim)) ∧ Below w.heap.size w w'' :=
  (Check_any A zs ca dim w' (hA.below hb).rd hA.len).mono fun _ _ h => ⟨h.1, Below.next hb h.2⟩

set_option maxHeartbeats 400000 in
theorem Has_any (tags mask : Int) (w : World) :
    Calls Try.prog 27 #[.int .u64 tags, .int .u64 mask] w fun e w' => e = .returned (.bool (bits .and .u64 tags mask == mask)) ∧ w = w' := by
  go_enter Try.func27, Try.ntmps27
  go_wp2
  go_ret
  exact ⟨rfl, rfl⟩

theorem begins3_any (w : World) : Calls Try.prog 16 #[] w fun e w' => e = .returned (.bool true) ∧ Below w.heap.size w w' := by
  have H1 : bits .and .u64 3 1 = 1 := by decide
  have H2 : bits .and .u64 1 3 = 1 := by decide
  go_enter Try.func16, Try.ntmps16
  go_wp2_with fail
  have v1 := Vec.new w 21 [1] (by decide) (by decide) _ rfl
  have v2 := Vec.new (w.alloc (.cells #[.int .i32 1] 21)) 21 [4] (by decide) (by decide) _ rfl
  have v1' := v1.alloc (.cells #[.int .i32 4] 21)
  rw [World.size_alloc] at v2
  have hB : Below w.heap.size w ((w.alloc (.cells #[.int .i32 1] 21)).alloc (.cells #[.int .i32 4] 21)) := ((Below.refl _ w).alloc (Nat.le_refl _) _).alloc (by simp) _
  have hd : satN (distN [1] [4] (max 1 1)) = 9 := by decide
  have HD := Lib.hid (Dist_v v1' v2 (Below.refl _ _) 1 1 1 1 rfl rfl)
  rw [hd] at HD
  clear v1 v2 v1' hd
  refine Calls.mono HD.out ?_
  rintro e w' ⟨rfl, hb⟩
  have hB2 := Below.next hB hb
  clear hB hb HD
  go_wp2_with fail
  refine (Has_any 3 1 _).mono ?_
  rintro e w'' ⟨rfl, rfl⟩
  rw [H1]
  go_wp2_with fail
  refine (Has_any 1 3 _).mono ?_
  rintro e w'' ⟨rfl, rfl⟩
  rw [H2]
  go_wp2
  go_ret
  exact ⟨rfl, hB2⟩

end Go.Proofs.Ytnfcmkmjahplpaa
