/- The fixed answers that the laws of rings ask for. -/
import Derived.Test.YtkoelbdmpnelhaaRingCuts
import Derived.Test.YtkoelbdmpnelhaaRingNew
import Derived.Test.YtkoelbdmpnelhaaRingLocks
import Derived.Test.YtkoelbdmpnelhaaRingSame
namespace Go.Proofs.Ytkoelbdmpnelhaa
open Go.RowKit

/-- Words in memory: what they are, and how many. -/
structure WdL (W : World) (ws : List Int) (n : Nat) (A : Option Addr) : Prop where
  rd : Rd (Value.int .u64) W W.heap.size A ws
  u : U64L ws
  len : ws.length = n
section
variable {W W' : World} {ws us : List Int} {n m c d x : Nat} {A X : Option Addr} {J : List OpT} {L : List Int}
theorem WdL.later (h : WdL W ws n A) (hb : Below W.heap.size W W') : WdL W' ws n A := ⟨(h.rd.below hb).more hb.size, h.u, h.len⟩
theorem WdL.atc (h : WdL W ws n A) : AtC ws c A W := AtC.of h.rd (Nat.le_refl _) h.u
def WordsL (us : List Int) (n : Nat) (w : World) (e : Ending) (w' : World) : Prop := ∃ A c, e = .returned (.slice A n c) ∧ WdL w' us n A ∧ Below w.heap.size w w'
def OpsL (J : List OpT) (m : Nat) (w : World) (e : Ending) (w' : World) : Prop := ∃ A c, e = .returned (.slice A m c) ∧ RdO w' w.heap.size w'.heap.size A J ∧ Below w.heap.size w w'
def IntsL (L : List Int) (m : Nat) (w : World) (e : Ending) (w' : World) : Prop := ∃ A c, e = .returned (.slice A m c) ∧ Rd (Value.int .i64) w' w'.heap.size A L ∧ Below w.heap.size w w'
theorem lNew {slots : Int} (hs : newW slots = us) (hm : us.length = m) (hu : U64L us) : Calls Try.prog 75 #[.int .i64 slots] W (WordsL us m W) := by
  subst hs hm
  exact (rNew_any slots W).mono fun e w' ⟨A, c, he, ho, hb⟩ => ⟨A, c, he, ⟨WordsNew.rd ho, hu, rfl⟩, hb⟩
theorem lJoins (h : WdL W ws n A) {s : Int} (hJ : joinsW ws s = J) (hm : J.length = m) : Calls Try.prog 69 #[.slice A n c, .int .i64 s] W (OpsL J m W) := by
  subst hJ hm
  obtain ⟨_, _, rfl⟩ := id h
  exact (rJoins_c h.atc s).mono fun e w' ⟨A, c, h1, _, h2⟩ => ⟨A, c, h1, h2⟩
theorem lCuts (h : WdL W ws n A) {s : Int} (hJ : cutsW ws s = J) (hm : J.length = m) : Calls Try.prog 71 #[.slice A n c, .int .i64 s] W (OpsL J m W) := by
  subst hJ hm
  obtain ⟨_, _, rfl⟩ := id h
  exact (rCuts_c h.atc s).mono fun e w' ⟨A, c, h1, _, h2⟩ => ⟨A, c, h1, h2⟩
theorem lDo (h : WdL W ws n A) (hl : n ≤ 100000) (hX : RdO W x W.heap.size X J) (hm : J.length = m) (hlm : m ≤ 100000) (hU : doW ws J = us) : Calls Try.prog 66 #[.slice A n c, .slice X m d] W (WordsL us n W) := by
  subst hU hm
  obtain ⟨h1, h2, rfl⟩ := h
  have := rDo_any (c := c) (d := d) h1 (Nat.le_refl _) hl hX.toG (Nat.le_refl _) (by simpa using hlm)
  rw [List.length_map, doG_opG] at this
  refine this.mono fun e w' ⟨A', c', he, ho, hb⟩ => ⟨A', c', ?_, ⟨WordsNew.rd ho, doW_u64 J ws h2, doW_len J ws⟩, hb⟩
  rw [he, doW_len]
theorem lAt (h : WdL W ws n A) {s a b : Int} (ha : atW ws s = (a, b)) : Calls Try.prog 59 #[.slice A n c, .int .i64 s] W fun e w' => e = .returned (.tuple #[.int .i64 a, .int .i64 b]) ∧ Below W.heap.size W w' := by
  obtain ⟨h1, h2, rfl⟩ := h
  have := rAt_any ws c A s W h1 h2
  rw [ha] at this
  exact this
theorem lList (h : WdL W ws n A) (hL : lstW ws = L) (hm : L.length = m) : Calls Try.prog 61 #[.slice A n c] W (IntsL L m W) := by
  subst hL hm
  obtain ⟨h1, h2, rfl⟩ := h
  exact (rList_any h1 (Nat.le_refl _) h2).mono fun e w' ⟨A', c', he, hr, hb⟩ => ⟨A', c', he, fun k z hz => let ⟨b, off, e1, _, e2, e3⟩ := hr k z hz; ⟨b, off, e1, e2, e3⟩, hb⟩
theorem lLocks (h : WdL W ws n A) {s : Int} (hL : locksW ws s = L) (hm : L.length = m) : Calls Try.prog 73 #[.slice A n c, .int .i64 s] W (IntsL L m W) := by
  subst hL hm
  obtain ⟨_, _, rfl⟩ := id h
  exact (rLocks_c h.atc s).mono fun e w' ⟨A', c', he, hr, hb⟩ => ⟨A', c', he, fun k z hz => let ⟨b, off, e1, _, e2, e3⟩ := hr k z hz; ⟨b, off, e1, e2, e3⟩, hb⟩
theorem lCheck (h : WdL W ws n A) {r : Int} (hr : errOf (chkW ws) = r) : Calls Try.prog 63 #[.slice A n c] W fun e w' => e = .returned (.int .i64 r) ∧ Below W.heap.size W w' := by
  subst hr
  obtain ⟨h1, h2, rfl⟩ := h
  exact rCheck_any h1 (Nat.le_refl _) h2
end
theorem u64_lit {l : List Int} (h : (l.all fun x => decide (0 ≤ x ∧ x ≤ 18446744073709551615)) = true) : U64L l := fun x hx => of_decide_eq_true (List.all_eq_true.1 h x hx)
theorem wdNil (W : World) : WdL W [] 0 none := ⟨Rd.nil, fun x hx => (by cases hx), rfl⟩
theorem two_row (W : World) (a n m b k l : Int) : RdO (W.alloc (.cells #[.int .i64 12, .int .i64 a, .int .i64 0, .int .i64 n, .int .i64 m, .int .u64 0, .slice none 0 0, .int .u64 0, .slice none 0 0, .int .u64 0, .int .i64 12, .int .i64 b, .int .i64 0, .int .i64 k, .int .i64 l, .int .u64 0, .slice none 0 0, .int .u64 0, .slice none 0 0, .int .u64 0] 106)) W.heap.size (W.heap.size + 1) (some ⟨W.heap.size, 0, none⟩) [(a, n, m), (b, k, l)] := by
  have := RdO.of_own (own_row (W := W.alloc (.cells (cellsO [(a, n, m), (b, k, l)]).toArray 106)) (base := W.heap.size) (L := [(a, n, m), (b, k, l)]) (Nat.le_refl _) (by simp) (heap_alloc_last W _)) rfl
  rw [World.size_alloc] at this
  exact this

theorem same1 {W : World} {A : Option Addr} {c : Nat} {x : Int} (h : Rd (Value.int .i64) W W.heap.size A [x]) : Calls Try.prog 18 #[.slice A 1 c, .slice (some ⟨W.heap.size, 0, none⟩) 1 1] (W.alloc (.cells #[.int .i64 x] 3)) fun e w' => e = .returned (.bool true) ∧ Below W.heap.size W w' := by
  have hB := Bx.new W [.int .i64 x] 3
  have hn := below_new W (.cells #[.int .i64 x] 3)
  exact (SameI_is (zs := [x]) rfl (rd_later h hn) (Rd.lit1 hB.lt (hB.c 0 _ rfl)) (by simp)).mono fun e w' ⟨he, hb⟩ => ⟨he, Below.next hn hb⟩
theorem same2 {W : World} {A : Option Addr} {c : Nat} {x y : Int} (h : Rd (Value.int .i64) W W.heap.size A [x, y]) : Calls Try.prog 18 #[.slice A 2 c, .slice (some ⟨W.heap.size, 0, none⟩) 2 2] (W.alloc (.cells #[.int .i64 x, .int .i64 y] 3)) fun e w' => e = .returned (.bool true) ∧ Below W.heap.size W w' := by
  have hB := Bx.new W [.int .i64 x, .int .i64 y] 3
  have hn := below_new W (.cells #[.int .i64 x, .int .i64 y] 3)
  exact (SameI_is (zs := [x, y]) rfl (rd_later h hn) (Rd.lit2 hB.lt (hB.c 0 _ rfl) (hB.c 1 _ rfl)) (by simp)).mono fun e w' ⟨he, hb⟩ => ⟨he, Below.next hn hb⟩
theorem same3 {W : World} {A : Option Addr} {c : Nat} {x y z : Int} (h : Rd (Value.int .i64) W W.heap.size A [x, y, z]) : Calls Try.prog 18 #[.slice A 3 c, .slice (some ⟨W.heap.size, 0, none⟩) 3 3] (W.alloc (.cells #[.int .i64 x, .int .i64 y, .int .i64 z] 3)) fun e w' => e = .returned (.bool true) ∧ Below W.heap.size W w' := by
  have hB := Bx.new W [.int .i64 x, .int .i64 y, .int .i64 z] 3
  have hn := below_new W (.cells #[.int .i64 x, .int .i64 y, .int .i64 z] 3)
  exact (SameI_is (zs := [x, y, z]) rfl (rd_later h hn) (Rd.lit3 hB.lt (hB.c 0 _ rfl) (hB.c 1 _ rfl) (hB.c 2 _ rfl)) (by simp)).mono fun e w' ⟨he, hb⟩ => ⟨he, Below.next hn hb⟩

set_option maxRecDepth 100000 in
set_option maxHeartbeats 4000000 in
theorem ring_lives_any (w : World) : Calls Try.prog 58 #[] w fun e w' => e = .returned (.bool true) ∧ Below w.heap.size w w' := by
  go_enter Try.func58, Try.ntmps58
  go_wp2_with fail
  refine (lNew (us := [8193, 0, 0, 0]) (m := 4) (by decide +kernel) rfl (u64_lit (by decide +kernel))).mono ?_
  rintro e w1 ⟨A1, c1, rfl, hw1, hb1⟩
  go_wp2_with fail
  refine (lJoins (J := [(2, 0, 0), (0, 2, 2)]) (m := 2) hw1 (by decide +kernel) rfl).mono ?_
  rintro e w2 ⟨A2, c2, rfl, hj2, hb2⟩
  have hw2 := hw1.later hb2
  have hB2 := Below.next hb1 hb2
  clear hw1 hb1 hb2
  go_wp2_with fail
  refine (lDo (us := [24579, 0, 8193, 0]) hw2 (by decide) hj2 rfl (by decide) (by decide +kernel)).mono ?_
  rintro e w3 ⟨A3, c3, rfl, hw3, hb3⟩
  have hj3 := (hj2.below hb3).more (Nat.le_refl _) hb3.size
  have hB3 := Below.next hB2 hb3
  clear hw2 hj2 hb3 hB2
  go_wp2_with fail
  refine (lJoins (J := [(1, 2, 0), (2, 0, 1), (0, 1, 2)]) (m := 3) hw3 (by decide +kernel) rfl).mono ?_
  rintro e w4 ⟨A4, c4, rfl, hj4, hb4⟩
  have hw4 := hw3.later hb4
  have hj5 := (hj3.below hb4).more (Nat.le_refl _) hb4.size
  have hB4 := Below.next hB3 hb4
  clear hw3 hj3 hb4 hB3
  go_wp2_with fail
  refine (lDo (us := [24578, 8195, 16385, 0]) hw4 (by decide) hj4 rfl (by decide) (by decide +kernel)).mono ?_
  rintro e w5 ⟨A5, c5, rfl, hw5, hb5⟩
  have hj6 := (hj5.below hb5).more (Nat.le_refl _) hb5.size
  have hB5 := Below.next hB4 hb5
  clear hw4 hj4 hj5 hb5 hB4
  go_wp2_with fail
  refine (lAt (a := 0) (b := 1) hw5 (by decide +kernel)).mono ?_
  rintro e w6 ⟨rfl, hb6⟩
  have hw6 := hw5.later hb6
  have hj7 := (hj6.below hb6).more (Nat.le_refl _) hb6.size
  have hB6 := Below.next hB5 hb6
  clear hw5 hj6 hb6 hB5
  go_wp2_with fail
  refine (lCuts (J := [(1, 0, 0), (0, 1, 1), (2, -1, -1)]) (m := 3) hw6 (by decide +kernel) rfl).mono ?_
  rintro e w7 ⟨A7, c7, rfl, hk7, hb7⟩
  have hw7 := hw6.later hb7
  have hj8 := (hj7.below hb7).more (Nat.le_refl _) hb7.size
  have hB7 := Below.next hB6 hb7
  clear hw6 hj7 hb7 hB6
  go_wp2_with fail
  refine (lDo (us := [16386, 8193, 0, 0]) hw7 (by decide) hk7 rfl (by decide) (by decide +kernel)).mono ?_
  rintro e w8 ⟨A8, c8, rfl, hz8, hb8⟩
  have hw8 := hw7.later hb8
  have hj9 := (hj8.below hb8).more (Nat.le_refl _) hb8.size
  have hB8 := Below.next hB7 hb8
  clear hw7 hj8 hk7 hb8 hB7
  go_wp2_with fail
  refine (SameOps_refl A2 _ [(2, 0, 0), (0, 2, 2)] 2 _ _ _ _ _ _ _ (hj9.below (below_new w8 _)) (two_row w8 2 0 0 0 2 2) rfl (by decide)).mono ?_
  rintro e w9 ⟨rfl, hd⟩
  have hb9 := Below.next (below_new w8 _) (hd.below _)
  have hw9 := hw8.later hb9
  have hz9 := hz8.later hb9
  have hB9 := Below.next hB8 hb9
  clear hw8 hz8 hj9 hd hb9 hB8
  go_wp2_with fail
  refine (lList (L := [1, 2]) (m := 2) hw9 (by decide +kernel) rfl).mono ?_
  rintro e w10 ⟨A10, c10, rfl, hr10, hb10⟩
  have hw10 := hw9.later hb10
  have hz10 := hz9.later hb10
  have hB10 := Below.next hB9 hb10
  clear hw9 hz9 hb10 hB9
  go_wp2_with fail
  refine (same2 hr10).mono ?_
  rintro e w11 ⟨rfl, hb11⟩
  have hw11 := hw10.later hb11
  have hz11 := hz10.later hb11
  have hB11 := Below.next hB10 hb11
  clear hw10 hz10 hb11 hB10
  clear hr10
  go_wp2_with fail
  refine (lList (L := [1]) (m := 1) hz11 (by decide +kernel) rfl).mono ?_
  rintro e w12 ⟨A12, c12, rfl, hr12, hb12⟩
  have hw12 := hw11.later hb12
  have hz12 := hz11.later hb12
  have hB12 := Below.next hB11 hb12
  clear hw11 hz11 hb12 hB11
  go_wp2_with fail
  refine (same1 hr12).mono ?_
  rintro e w13 ⟨rfl, hb13⟩
  have hw13 := hw12.later hb13
  have hz13 := hz12.later hb13
  have hB13 := Below.next hB12 hb13
  clear hw12 hz12 hb13 hB12
  clear hr12
  go_wp2_with fail
  refine (lCheck (r := 0) hw13 (by decide +kernel)).mono ?_
  rintro e w14 ⟨rfl, hb14⟩
  have hw14 := hw13.later hb14
  have hB14 := Below.next hB13 hb14
  clear hw13 hz13 hb14 hB13
  go_wp2_with fail
  refine (lCheck (r := 7) (wdNil _) (by decide +kernel)).mono ?_
  rintro e w15 ⟨rfl, hb15⟩
  have hw15 := hw14.later hb15
  have hB15 := Below.next hB14 hb15
  clear hw14 hb15 hB14
  go_wp2_with fail
  refine (lLocks (s := 2) (L := [0, 1, 2]) (m := 3) hw15 (by decide +kernel) rfl).mono ?_
  rintro e w16 ⟨A16, c16, rfl, hr16, hb16⟩
  have hw16 := hw15.later hb16
  have hB16 := Below.next hB15 hb16
  clear hw15 hb16 hB15
  go_wp2_with fail
  refine (same3 hr16).mono ?_
  rintro e w17 ⟨rfl, hb17⟩
  have hw17 := hw16.later hb17
  have hB17 := Below.next hB16 hb17
  clear hw16 hb17 hB16
  clear hr16
  go_wp2_with fail
  refine (lLocks (s := 3) (L := [0, 1, 3]) (m := 3) hw17 (by decide +kernel) rfl).mono ?_
  rintro e w18 ⟨A18, c18, rfl, hr18, hb18⟩
  have hw18 := hw17.later hb18
  have hB18 := Below.next hB17 hb18
  clear hw17 hb18 hB17
  go_wp2_with fail
  refine (same3 hr18).mono ?_
  rintro e w19 ⟨rfl, hb19⟩
  have hw19 := hw18.later hb19
  have hB19 := Below.next hB18 hb19
  clear hw18 hb19 hB18
  clear hr18
  go_wp2_with fail
  refine (lJoins (J := []) (m := 0) hw19 (by decide +kernel) rfl).mono ?_
  rintro e w20 ⟨A20, c20, rfl, hr20, hb20⟩
  have hw20 := hw19.later hb20
  have hB20 := Below.next hB19 hb20
  clear hw19 hb20 hB19
  go_wp2_with fail
  refine (lCuts (J := []) (m := 0) hw20 (by decide +kernel) rfl).mono ?_
  rintro e w21 ⟨A21, c21, rfl, hr21, hb21⟩
  have hw21 := hw20.later hb21
  have hB21 := Below.next hB20 hb21
  clear hw20 hb21 hB20
  have HB := Lib.hid hB21
  clear hB21
  go_wp2
  go_ret
  exact ⟨rfl, HB.out⟩
end Go.Proofs.Ytkoelbdmpnelhaa
