/- The law's own question of the answers that the document gives (lives), for package clock: the answer is 'true'. -/
import Derived.Test.YtabcnmpnjnegdaaClkCmp
import Derived.Test.YtabcnmpnjnegdaaSameInts
import Derived.Handy
namespace Go.Proofs.Ytabcnmpnjnegdaa
open Go.RowKit

section
variable {w w' : World} {α : Type} {f : α → Value} {B b : Nat}
theorem Rd.lit1 {x : α} (hb : b < B) (h0 : w.cell? ⟨b, 0, none⟩ = some (f x)) : Rd f w B (some ⟨b, 0, none⟩) [x] := fun k z hz => by
  match k, hz with
  | 0, hz => simp at hz; subst hz; exact ⟨b, 0, rfl, hb, h0⟩
theorem Rd.lit2 {x y : α} (hb : b < B) (h0 : w.cell? ⟨b, 0, none⟩ = some (f x)) (h1 : w.cell? ⟨b, 1, none⟩ = some (f y)) : Rd f w B (some ⟨b, 0, none⟩) [x, y] := fun k z hz => by
  match k, hz with
  | 0, hz => simp at hz; subst hz; exact ⟨b, 0, rfl, hb, h0⟩
  | 1, hz => simp at hz; subst hz; exact ⟨b, 0, rfl, hb, h1⟩
theorem Rd.lit3 {x y z : α} (hb : b < B) (h0 : w.cell? ⟨b, 0, none⟩ = some (f x)) (h1 : w.cell? ⟨b, 1, none⟩ = some (f y)) (h2 : w.cell? ⟨b, 2, none⟩ = some (f z)) : Rd f w B (some ⟨b, 0, none⟩) [x, y, z] := fun k u hu => by
  match k, hu with
  | 0, hu => simp at hu; subst hu; exact ⟨b, 0, rfl, hb, h0⟩
  | 1, hu => simp at hu; subst hu; exact ⟨b, 0, rfl, hb, h1⟩
  | 2, hu => simp at hu; subst hu; exact ⟨b, 0, rfl, hb, h2⟩
end
theorem rd_later {X Y : World} {B : Option Addr} {L : List Int} (h : Rd (Value.int .i64) X X.heap.size B L) (hb : Below X.heap.size X Y) : Rd (Value.int .i64) Y Y.heap.size B L := (h.below hb).more hb.size
theorem below_new (X : World) (o : Obj) : Below X.heap.size X (X.alloc o) := (Below.refl _ X).alloc (Nat.le_refl _) o
theorem below_one {a w : World} (h : Below a.heap.size a w) (o : Obj) : Below a.heap.size a (w.alloc o) := h.alloc h.size o

def IntsAre (L : List Int) (n : Nat) (w : World) (e : Ending) (w' : World) : Prop :=
  ∃ A c, e = .returned (.slice A n c) ∧ Rd (Value.int .i64) w' w'.heap.size A L ∧ Below w.heap.size w w'
theorem IntsOut.are {L : List Int} {n : Nat} {w w' : World} {e : Ending} (h : IntsOut L w e w') (hn : L.length = n) : IntsAre L n w e w' := by
  subst hn
  obtain ⟨A, c, he, hr, _, _, _, hb⟩ := h
  exact ⟨A, c, he, hr, hb⟩

/-- Contracts at lists that are written out. -/
theorem At_is {A : Option Addr} {zs : List Int} {c n : Nat} {x r : Int} {w : World} (hn : zs.length = n) (h : atZ zs x = r) (hA : Rd (Value.int .i64) w w.heap.size A zs) (hl : zs.length ≤ 100000) :
    Calls Try.prog 10 #[.slice A n c, .int .i64 x] w fun e w' => e = .returned (.int .i64 r) ∧ w = w' := by
  subst hn h
  exact At_any A zs c x w hA (by omega)
theorem Tick_is {A : Option Addr} {zs L : List Int} {c n m : Nat} {x : Int} {w : World} (hn : zs.length = n) (h : shortL (tickN (numL zs) x) = L) (hm : L.length = m) (hA : Rd (Value.int .i64) w w.heap.size A zs) (hl : zs.length ≤ 100000) :
    Calls Try.prog 15 #[.slice A n c, .int .i64 x] w (IntsAre L m w) := by
  subst hn h
  exact (Tick_any A zs c x w hA (by omega)).mono fun _ _ k => k.are hm
theorem Join_is {A B : Option Addr} {zs ys L : List Int} {c d n k m : Nat} {w : World} (hn : zs.length = n) (hk : ys.length = k) (h : shortL (joinN (numL zs) (numL ys)) = L) (hm : L.length = m)
    (hA : Rd (Value.int .i64) w w.heap.size A zs) (hB : Rd (Value.int .i64) w w.heap.size B ys) (hl : zs.length ≤ 100000 ∧ ys.length ≤ 100000) :
    Calls Try.prog 17 #[.slice A n c, .slice B k d] w (IntsAre L m w) := by
  subst hn hk h
  exact (Join_any A B zs ys c d w hA hB (by omega) (by omega)).mono fun _ _ k => k.are hm
theorem Compare_is {A B : Option Addr} {zs ys : List Int} {c d n k : Nat} {r : Int} {w : World} (hn : zs.length = n) (hk : ys.length = k) (h : cmpN (numL zs) (numL ys) = r)
    (hA : Rd (Value.int .i64) w w.heap.size A zs) (hB : Rd (Value.int .i64) w w.heap.size B ys) (hl : zs.length ≤ 100000 ∧ ys.length ≤ 100000) :
    Calls Try.prog 19 #[.slice A n c, .slice B k d] w fun e w' => e = .returned (.int .i64 r) ∧ Below w.heap.size w w' := by
  subst hn hk h
  exact Compare_any A B zs ys c d w hA hB (by omega) (by omega)
theorem Short_is {A : Option Addr} {zs L : List Int} {c n m : Nat} {w : World} (hn : zs.length = n) (h : shortL (numL zs) = L) (hm : L.length = m) (hA : Rd (Value.int .i64) w w.heap.size A zs) (hl : zs.length ≤ 100000) :
    Calls Try.prog 13 #[.slice A n c] w (IntsAre L m w) := by
  subst hn h
  exact (Short_any A zs c w hA (by omega)).mono fun _ _ k => k.are hm
theorem SameI_is {A B : Option Addr} {zs : List Int} {c d n : Nat} {w : World} (hn : zs.length = n) (hA : Rd (Value.int .i64) w w.heap.size A zs) (hB : Rd (Value.int .i64) w w.heap.size B zs) (hl : zs.length ≤ 100000) :
    Calls Try.prog 12 #[.slice A n c, .slice B n d] w fun e w' => e = .returned (.bool true) ∧ Below w.heap.size w w' := by
  subst hn
  exact (SameInts_refl A B zs c d w hA hB (by omega)).mono fun _ _ ⟨he, hd⟩ => ⟨he, hd.below _⟩

set_option maxRecDepth 100000 in
set_option maxHeartbeats 4000000 in
theorem clock_lives_any (w : World) : Calls Try.prog 9 #[] w fun e w' => e = .returned (.bool true) ∧ Below w.heap.size w w' := by
  go_enter Try.func9, Try.ntmps9
  go_wp2_with fail
  refine Calls.mono (At_is (zs := [1, -2]) (r := 0) rfl (by decide +kernel) (Rd.lit2 (by go_size) (by go_cell) (by go_cell)) (by decide)) ?_
  rintro e w' ⟨rfl, rfl⟩
  go_wp2_with fail
  refine Calls.mono (At_is (zs := [1]) (r := 1) rfl (by decide +kernel) (Rd.lit1 (by go_size) (by go_cell)) (by decide)) ?_
  rintro e w' ⟨rfl, rfl⟩
  go_wp2_with fail
  refine Calls.mono (At_is (zs := []) (r := 0) rfl (by decide +kernel) Rd.nil (by decide)) ?_
  rintro e w' ⟨rfl, rfl⟩
  have HB := Lib.hid (below_one (below_one (Below.refl _ w) (.cells #[.int .i64 1, .int .i64 (-2)] 3)) (.cells #[.int .i64 1] 3))
  go_wp2_with fail
  refine Calls.mono (Tick_is (zs := []) (L := [0, 0, 1]) rfl (by decide +kernel) rfl Rd.nil (by decide)) ?_
  rintro e w1 ⟨A1, c1, rfl, hr, hb⟩
  have HB := Lib.hid (below_one (Below.next HB.out hb) (.cells #[.int .i64 0, .int .i64 0, .int .i64 1] 3))
  have HR := Lib.hid hr
  clear hb hr
  go_wp2_with fail
  refine Calls.mono (SameI_is (zs := [0, 0, 1]) rfl (rd_later HR.out (below_new _ _)) (Rd.lit3 (by go_size) (by go_cell) (by go_cell) (by go_cell)) (by decide)) ?_
  rintro e w2 ⟨rfl, hb⟩
  have HB := Lib.hid (below_one (Below.next HB.out hb) (.cells #[.int .i64 3, .int .i64 0] 3))
  clear hb HR
  go_wp2_with fail
  refine Calls.mono (Tick_is (zs := [3, 0]) (L := [3]) rfl (by decide +kernel) rfl (Rd.lit2 (by go_size) (by go_cell) (by go_cell)) (by decide)) ?_
  rintro e w3 ⟨A3, c3, rfl, hr, hb⟩
  have HB := Lib.hid (below_one (Below.next HB.out hb) (.cells #[.int .i64 3] 3))
  have HR := Lib.hid hr
  clear hb hr
  go_wp2_with fail
  refine Calls.mono (SameI_is (zs := [3]) rfl (rd_later HR.out (below_new _ _)) (Rd.lit1 (by go_size) (by go_cell)) (by decide)) ?_
  rintro e w4 ⟨rfl, hb⟩
  have HB := Lib.hid (below_one (below_one (Below.next HB.out hb) (.cells #[.int .i64 1, .int .i64 5] 3)) (.cells #[.int .i64 2, .int .i64 (-1), .int .i64 1] 3))
  clear hb HR
  go_wp2_with fail
  refine Calls.mono (Join_is (zs := [1, 5]) (ys := [2, -1, 1]) (L := [2, 5, 1]) rfl rfl (by decide +kernel) rfl (Rd.lit2 (by go_size) (by go_cell) (by go_cell)) (Rd.lit3 (by go_size) (by go_cell) (by go_cell) (by go_cell)) (by decide)) ?_
  rintro e w5 ⟨A5, c5, rfl, hr, hb⟩
  have HB := Lib.hid (below_one (Below.next HB.out hb) (.cells #[.int .i64 2, .int .i64 5, .int .i64 1] 3))
  have HR := Lib.hid hr
  clear hb hr
  go_wp2_with fail
  refine Calls.mono (SameI_is (zs := [2, 5, 1]) rfl (rd_later HR.out (below_new _ _)) (Rd.lit3 (by go_size) (by go_cell) (by go_cell) (by go_cell)) (by decide)) ?_
  rintro e w6 ⟨rfl, hb⟩
  have HB := Lib.hid (below_one (below_one (Below.next HB.out hb) (.cells #[.int .i64 1, .int .i64 0] 3)) (.cells #[.int .i64 0, .int .i64 1] 3))
  clear hb HR
  go_wp2_with fail
  refine Calls.mono (Compare_is (zs := [1, 0]) (ys := [0, 1]) (r := 2) rfl rfl (by decide +kernel) (Rd.lit2 (by go_size) (by go_cell) (by go_cell)) (Rd.lit2 (by go_size) (by go_cell) (by go_cell)) (by decide)) ?_
  rintro e w7 ⟨rfl, hb⟩
  have HB := Lib.hid (below_one (below_one (Below.next HB.out hb) (.cells #[.int .i64 1] 3)) (.cells #[.int .i64 1, .int .i64 1] 3))
  clear hb
  go_wp2_with fail
  refine Calls.mono (Compare_is (zs := [1]) (ys := [1, 1]) (r := -1) rfl rfl (by decide +kernel) (Rd.lit1 (by go_size) (by go_cell)) (Rd.lit2 (by go_size) (by go_cell) (by go_cell)) (by decide)) ?_
  rintro e w8 ⟨rfl, hb⟩
  have HB := Lib.hid (below_one (below_one (Below.next HB.out hb) (.cells #[.int .i64 2] 3)) (.cells #[.int .i64 1, .int .i64 (-1)] 3))
  clear hb
  go_wp2_with fail
  refine Calls.mono (Compare_is (zs := [2]) (ys := [1, -1]) (r := 1) rfl rfl (by decide +kernel) (Rd.lit1 (by go_size) (by go_cell)) (Rd.lit2 (by go_size) (by go_cell) (by go_cell)) (by decide)) ?_
  rintro e w9 ⟨rfl, hb⟩
  have HB := Lib.hid (below_one (Below.next HB.out hb) (.cells #[.int .i64 0] 3))
  clear hb
  go_wp2_with fail
  refine Calls.mono (Compare_is (zs := []) (ys := [0]) (r := 0) rfl rfl (by decide +kernel) Rd.nil (Rd.lit1 (by go_size) (by go_cell)) (by decide)) ?_
  rintro e w10 ⟨rfl, hb⟩
  have HB := Lib.hid (below_one (Below.next HB.out hb) (.cells #[.int .i64 0, .int .i64 (-1)] 3))
  clear hb
  go_wp2_with fail
  refine Calls.mono (Short_is (zs := [0, -1]) (L := []) rfl (by decide +kernel) rfl (Rd.lit2 (by go_size) (by go_cell) (by go_cell)) (by decide)) ?_
  rintro e w11 ⟨A11, c11, rfl, _, hb⟩
  have HB := Lib.hid (Below.next HB.out hb)
  clear hb
  go_wp2
  go_ret
  exact ⟨rfl, HB.out⟩

end Go.Proofs.Ytabcnmpnjnegdaa
