/- The law's own question of the answers that the document gives (lives), for package edges: the answer is 'true'. -/
import Derived.Test.YtamgmbjcobomhaaEdFarL
import Derived.Test.YtamgmbjcobomhaaEdPairs
import Derived.Test.YtamgmbjcobomhaaEdRight
import Derived.Test.YtamgmbjcobomhaaSameInts
namespace Go.Proofs.Ytamgmbjcobomhaa
open Go.RowKit Go.Shelf

section
variable {w w' : World} {α : Type} {f : α → Value} {B b : Nat}
theorem Rd.lit1 {x : α} (hb : b < B) (h0 : w.cell? ⟨b, 0, none⟩ = some (f x)) : Rd f w B (some ⟨b, 0, none⟩) [x] := fun k z hz => by
  match k, hz with
  | 0, hz => simp at hz; subst hz; exact ⟨b, 0, rfl, hb, h0⟩
theorem Rd.lit2 {x y : α} (hb : b < B) (h0 : w.cell? ⟨b, 0, none⟩ = some (f x)) (h1 : w.cell? ⟨b, 1, none⟩ = some (f y)) : Rd f w B (some ⟨b, 0, none⟩) [x, y] := fun k z hz => by
  match k, hz with
  | 0, hz => simp at hz; subst hz; exact ⟨b, 0, rfl, hb, h0⟩
  | 1, hz => simp at hz; subst hz; exact ⟨b, 0, rfl, hb, h1⟩
theorem Rd.lit3 {x y z : α} (hb : b < B) (h0 : w.cell? ⟨b, 0, none⟩ = some (f x)) (h1 : w.cell? ⟨b, 1, none⟩ = some (f y)) (h2 : w.cell? ⟨b, 2, none⟩ = some (f z)) : Rd f w B (some ⟨b, 0, none⟩) [x, y, z] := fun k u hu => by
  match k, hu with
  | 0, hu => simp at hu; subst hu; exact ⟨b, 0, rfl, hb, h0⟩
  | 1, hu => simp at hu; subst hu; exact ⟨b, 0, rfl, hb, h1⟩
  | 2, hu => simp at hu; subst hu; exact ⟨b, 0, rfl, hb, h2⟩
theorem RdP.lit2 {x y : Int × Int} (hb : b < B) (h0 : w.cell? ⟨b, 0, none⟩ = some (.int .i64 x.1)) (h1 : w.cell? ⟨b, 1, none⟩ = some (.int .i64 x.2)) (h2 : w.cell? ⟨b, 2, none⟩ = some (.int .i64 y.1)) (h3 : w.cell? ⟨b, 3, none⟩ = some (.int .i64 y.2)) : RdP w B (some ⟨b, 0, none⟩) [x, y] := fun k z hz => by
  match k, hz with
  | 0, hz => simp at hz; subst hz; exact ⟨b, 0, rfl, hb, h0, h1⟩
  | 1, hz => simp at hz; subst hz; exact ⟨b, 0, rfl, hb, h2, h3⟩
theorem VecB.lit1 {x : Int} (hb : b < B) (h0 : w.cell? ⟨b, 0, none⟩ = some (.int .i32 x)) (hx : -2147483648 ≤ x ∧ x ≤ 2147483647) : VecB w B (some ⟨b, 0, none⟩) [x] :=
  ⟨Rd.lit1 hb h0, by simp, by rw [Hid]; intro z hz; simp at hz; subst hz; exact hx⟩
theorem ItemsAt.lit2 {x y : ItT} (hb : b < B) (h0 : w.cell? ⟨b, 0, none⟩ = some (.int .u64 x.id)) (h1 : w.cell? ⟨b, 1, none⟩ = some (.slice x.A x.vec.length x.cap)) (h2 : w.cell? ⟨b, 2, none⟩ = some (.int .u64 x.tags))
    (h3 : w.cell? ⟨b, 3, none⟩ = some (.int .u64 y.id)) (h4 : w.cell? ⟨b, 4, none⟩ = some (.slice y.A y.vec.length y.cap)) (h5 : w.cell? ⟨b, 5, none⟩ = some (.int .u64 y.tags)) (hx : VecB w B x.A x.vec) (hy : VecB w B y.A y.vec) : ItemsAt w B (some ⟨b, 0, none⟩) [x, y] := fun k z hz => by
  match k, hz with
  | 0, hz => simp at hz; subst hz; exact ⟨⟨b, 0, rfl, hb, h0, h1, h2⟩, hx⟩
  | 1, hz => simp at hz; subst hz; exact ⟨⟨b, 0, rfl, hb, h3, h4, h5⟩, hy⟩
end

/-- Contracts at lists that are written out. -/
theorem Far_is {V A I : Option Addr} {vs zs : List Int} {its : List ItT} {cv c ci lv lz li : Nat} {d i s : Int} {b : Bool} {w : World} (e1 : vs.length = lv) (e2 : zs.length = lz) (e3 : its.length = li) (hf : farS vs zs its = ((d, i), s)) (hb : decide (0 < zs.length) = b)
    (hV : VecB w w.heap.size V vs) (hA : Rd (Value.int .i64) w w.heap.size A zs) (hI : ItemsAt w w.heap.size I its) (hl : zs.length ≤ 100000 ∧ its.length ≤ 100000) :
    Calls Try.prog 40 #[.slice V lv cv, .slice A lz c, .slice I li ci] w fun e w' => e = .returned (.tuple #[.agg #[.int .u64 d, .int .u64 i, .int .i64 s], .bool b]) ∧ Below w.heap.size w w' := by
  subst e1 e2 e3 hb
  exact (Far_any V vs cv A zs c I its ci w hV hA hI hl.1 hl.2).mono fun _ _ ⟨he, hb⟩ => ⟨by rw [he, hf]; rfl, hb⟩
theorem Most_is {links level m : Int} (h : mostZ links level = m) (w : World) :
    Calls Try.prog 42 #[.int .i64 links, .int .i64 level] w fun e w' => e = .returned (.int .i64 m) ∧ w = w' := h ▸ Most_any links level w
def IntsAre (L : List Int) (n : Nat) (w : World) (e : Ending) (w' : World) : Prop :=
  ∃ A c, e = .returned (.slice A n c) ∧ Rd (Value.int .i64) w' w'.heap.size A L ∧ Below w.heap.size w w'
theorem IntsOut.are {L : List Int} {n : Nat} {w w' : World} {e : Ending} (h : IntsOut L w e w') (hn : L.length = n) : IntsAre L n w e w' := by
  subst hn
  obtain ⟨A, c, he, hr, _, _, _, hb⟩ := h
  exact ⟨A, c, he, hr, hb⟩
theorem With_is {A : Option Addr} {zs L : List Int} {c n lz : Nat} {x : Int} {w : World} (e1 : zs.length = lz) (h : withI zs x = L) (hn : L.length = n) (hA : Rd (Value.int .i64) w w.heap.size A zs) (hl : zs.length ≤ 100000) (hc : A = none → c = 0) :
    Calls Try.prog 47 #[.slice A lz c, .int .i64 x] w (IntsAre L n w) := by
  subst e1 h
  exact (With_any A zs c x w hA hl hc).mono fun _ _ k => k.are hn
theorem Without_is {A : Option Addr} {zs L : List Int} {c n lz : Nat} {x : Int} {w : World} (e1 : zs.length = lz) (h : withoutI zs x = L) (hn : L.length = n) (hA : Rd (Value.int .i64) w w.heap.size A zs) (hl : zs.length ≤ 100000) :
    Calls Try.prog 49 #[.slice A lz c, .int .i64 x] w (IntsAre L n w) := by
  subst e1 h
  exact (Without_any A zs c x w hA hl).mono fun _ _ k => k.are hn
theorem SameI_is {A B : Option Addr} {zs : List Int} {c d n : Nat} {w : World} (hn : zs.length = n) (hA : Rd (Value.int .i64) w w.heap.size A zs) (hB : Rd (Value.int .i64) w w.heap.size B zs) (hl : zs.length ≤ 100000) :
    Calls Try.prog 46 #[.slice A n c, .slice B n d] w fun e w' => e = .returned (.bool true) ∧ Below w.heap.size w w' := by
  subst hn
  exact (SameInts_refl A B zs c d w hA hB (by omega)).mono fun _ _ ⟨he, hd⟩ => ⟨he, hd.below _⟩
theorem Has_is {A : Option Addr} {zs : List Int} {c n : Nat} {x : Int} {b : Bool} {w : World} (hn : zs.length = n) (h : hasI zs x = b) (hA : Rd (Value.int .i64) w w.heap.size A zs) (hl : zs.length ≤ 100000) :
    Calls Try.prog 44 #[.slice A n c, .int .i64 x] w fun e w' => e = .returned (.bool b) ∧ w = w' := by
  subst hn h
  exact Has_any A zs c x w hA (by omega)
theorem Right_is {A : Option Addr} {zs : List Int} {c n : Nat} {self links level slots : Int} {b : Bool} {w : World} (hn : zs.length = n) (h : rightB zs self links level slots = b) (hA : Rd (Value.int .i64) w w.heap.size A zs) (hl : zs.length ≤ 100000) (hc : zs.length ≤ c) :
    Calls Try.prog 51 #[.slice A n c, .int .i64 self, .int .i64 links, .int .i64 level, .int .i64 slots] w fun e w' => e = .returned (.bool b) ∧ w = w' := by
  subst hn h
  exact Right_any A zs c self links level slots w hA hl hc
def PairsAre (L : List (Int × Int)) (n : Nat) (w : World) (e : Ending) (w' : World) : Prop :=
  ∃ A c, e = .returned (.slice A n c) ∧ RdP w' w'.heap.size A L ∧ Below w.heap.size w w'
theorem Pairs_is {A : Option Addr} {zs : List Int} {L : List (Int × Int)} {c n lz : Nat} {w : World} (e1 : zs.length = lz) (h : pairsI zs = L) (hn : L.length = n) (hA : Rd (Value.int .i64) w w.heap.size A zs) (hl : zs.length ≤ 100000) :
    Calls Try.prog 54 #[.slice A lz c] w (PairsAre L n w) := by
  subst e1 h hn
  exact Pairs_any A zs c w hA hl
theorem SameP_is {A B : Option Addr} {zs : List (Int × Int)} {c d n : Nat} {w : World} (hn : zs.length = n) (hA : RdP w w.heap.size A zs) (hB : RdP w w.heap.size B zs) (hl : zs.length ≤ 100000) :
    Calls Try.prog 53 #[.slice A n c, .slice B n d] w fun e w' => e = .returned (.bool true) ∧ Below w.heap.size w w' := by
  subst hn
  exact (SamePairs_refl A B zs c d w hA hB (by omega)).mono fun _ _ ⟨he, hd⟩ => ⟨he, hd.below _⟩

/-- The law's first spot, in its box, in a world that has grown from w. -/
structure KS (w W : World) (S : Nat) : Prop where
  hb : Below w.heap.size w W
  lt : S < W.heap.size
  s0 : W.cell? ⟨S, 0, none⟩ = some (.int .u64 9)
  s1 : W.cell? ⟨S, 1, none⟩ = some (.int .u64 2)
  s2 : W.cell? ⟨S, 2, none⟩ = some (.int .i64 7)
theorem KS.grow {w W W' : World} {S : Nat} (h : KS w W S) (hb : Below W.heap.size W W') : KS w W' S :=
  ⟨Below.next h.hb hb, Nat.lt_of_lt_of_le h.lt hb.size, (hb.cell (p := ⟨S, 0, none⟩) h.lt).trans h.s0, (hb.cell (p := ⟨S, 1, none⟩) h.lt).trans h.s1, (hb.cell (p := ⟨S, 2, none⟩) h.lt).trans h.s2⟩
theorem KS.alloc {w W : World} {S : Nat} (h : KS w W S) (o : Obj) : KS w (W.alloc o) S := h.grow ((Below.refl _ W).alloc (Nat.le_refl _) o)

theorem far_lit (A1 A2 : Option Addr) : farS [0] [5, 7, 6] [⟨1, A1, [3], 1, 0⟩, ⟨2, A2, [-3], 1, 0⟩] = ((9, 2), 7) := by kernel_rfl
theorem rd_later {X Y : World} {B : Option Addr} {L : List Int} (h : Rd (Value.int .i64) X X.heap.size B L) (hb : Below X.heap.size X Y) : Rd (Value.int .i64) Y Y.heap.size B L := (h.below hb).more hb.size
theorem rdP_later {X Y : World} {B : Option Addr} {L : List (Int × Int)} (h : RdP X X.heap.size B L) (hb : Below X.heap.size X Y) : RdP Y Y.heap.size B L := (h.below hb).more hb.size
theorem below_new (X : World) (o : Obj) : Below X.heap.size X (X.alloc o) := (Below.refl _ X).alloc (Nat.le_refl _) o

set_option maxRecDepth 100000 in
set_option maxHeartbeats 4000000 in
theorem edges_lives_any (w : World) : Calls Try.prog 39 #[] w fun e w' => e = .returned (.bool true) ∧ Below w.heap.size w w' := by
  go_enter Try.func39, Try.ntmps39
  go_wp2_with fail
  refine Calls.mono (Far_is (vs := [0]) (zs := [5, 7, 6]) (its := [⟨1, some ⟨w.heap.size + 1 + 1, 0, none⟩, [3], 1, 0⟩, ⟨2, some ⟨w.heap.size + 1 + 1 + 1, 0, none⟩, [-3], 1, 0⟩]) rfl rfl rfl (far_lit _ _) rfl ?a1 ?a2 ?a3 ⟨by simp, by simp⟩) ?_
  case a1 => exact VecB.lit1 (by go_size) (by go_cell) (by decide)
  case a2 => exact Rd.lit3 (by go_size) (by go_cell) (by go_cell) (by go_cell)
  case a3 => exact ItemsAt.lit2 (by go_size) (by go_cell) (by go_cell) (by go_cell) (by go_cell) (by go_cell) (by go_cell) (VecB.lit1 (by go_size) (by go_cell) (by decide)) (VecB.lit1 (by go_size) (by go_cell) (by decide))
  rintro e w1 ⟨rfl, hb⟩
  have hb1 : Below w.heap.size w w1 := (((((((Below.refl _ w).alloc (Nat.le_refl _) _).alloc (by go_size) _).alloc (by go_size) _).alloc (by go_size) _).alloc (by go_size) _)).trans (hb.mono (by go_size))
  have K1 : KS w (w1.alloc (.cells #[.int .u64 9, .int .u64 2, .int .i64 7] 36)) w1.heap.size := ⟨hb1.alloc hb1.size _, by simp, by go_cell, by go_cell, by go_cell⟩
  have HK := Lib.hid K1
  clear hb hb1 K1
  go_wp2_with fail
  refine Calls.mono (Far_is (vs := []) (zs := []) (its := []) rfl rfl rfl rfl rfl VecB.nil Rd.nil ItemsAt.nil (by decide)) ?_
  rintro e w2 ⟨rfl, hb⟩
  have K2 := HK.out.grow hb
  clear hb HK
  have HK := Lib.hid (K2.alloc (.cells #[.int .u64 0, .int .u64 0, .int .i64 0] 36))
  clear K2
  generalize w1.heap.size = S at *
  go_wp2_with fail
  refine Calls.mono (Most_is (m := 8) (by decide +kernel) _) ?_
  rintro e w' ⟨rfl, rfl⟩
  go_wp2_with fail
  refine Calls.mono (Most_is (m := 32) (by decide +kernel) _) ?_
  rintro e w' ⟨rfl, rfl⟩
  go_wp2_with fail
  refine Calls.mono (Most_is (m := 1) (by decide +kernel) _) ?_
  rintro e w' ⟨rfl, rfl⟩
  go_wp2_with fail
  refine Calls.mono (With_is (zs := [1]) (L := [1, 2]) (n := 2) rfl (by decide +kernel) rfl (Rd.lit1 (by go_size) (by go_cell)) (by decide) (by simp)) ?_
  rintro e w3 ⟨A3, c3, rfl, hr, hb⟩
  have K2 := (HK.out.alloc _).grow hb
  clear HK hb
  have HK := Lib.hid K2
  have HR := Lib.hid hr
  clear K2 hr
  go_wp2_with fail
  refine Calls.mono (SameI_is (zs := [1, 2]) rfl (rd_later HR.out (below_new _ _)) (Rd.lit2 (by go_size) (by go_cell) (by go_cell)) (by decide)) ?_
  rintro e w4 ⟨rfl, hb⟩
  have K2 := (HK.out.alloc _).grow hb
  clear HK hb HR
  have HK := Lib.hid K2
  clear K2
  go_wp2_with fail
  refine Calls.mono (With_is (zs := [1]) (L := [1]) (n := 1) rfl (by decide +kernel) rfl (Rd.lit1 (by go_size) (by go_cell)) (by decide) (by simp)) ?_
  rintro e w5 ⟨A5, c5, rfl, hr, hb⟩
  have K2 := (HK.out.alloc _).grow hb
  clear HK hb
  have HK := Lib.hid K2
  have HR := Lib.hid hr
  clear K2 hr
  go_wp2_with fail
  refine Calls.mono (SameI_is (zs := [1]) rfl (rd_later HR.out (below_new _ _)) (Rd.lit1 (by go_size) (by go_cell)) (by decide)) ?_
  rintro e w6 ⟨rfl, hb⟩
  have K2 := (HK.out.alloc _).grow hb
  clear HK hb HR
  have HK := Lib.hid K2
  clear K2
  go_wp2_with fail
  refine Calls.mono (Without_is (zs := [1, 2, 1]) (L := [2]) (n := 1) rfl (by decide +kernel) rfl (Rd.lit3 (by go_size) (by go_cell) (by go_cell) (by go_cell)) (by decide)) ?_
  rintro e w7 ⟨A7, c7, rfl, hr, hb⟩
  have K2 := (HK.out.alloc _).grow hb
  clear HK hb
  have HK := Lib.hid K2
  have HR := Lib.hid hr
  clear K2 hr
  go_wp2_with fail
  refine Calls.mono (SameI_is (zs := [2]) rfl (rd_later HR.out (below_new _ _)) (Rd.lit1 (by go_size) (by go_cell)) (by decide)) ?_
  rintro e w8 ⟨rfl, hb⟩
  have K2 := (HK.out.alloc _).grow hb
  clear HK hb HR
  have HK := Lib.hid K2
  clear K2
  go_wp2_with fail
  refine Calls.mono (Has_is (zs := [4]) (b := true) rfl (by decide +kernel) (Rd.lit1 (by go_size) (by go_cell)) (by decide)) ?_
  rintro e w' ⟨rfl, rfl⟩
  have K2 := HK.out.alloc (.cells #[.int .i64 4] 3)
  clear HK
  have HK := Lib.hid K2
  clear K2
  go_wp2_with fail
  refine Calls.mono (Has_is (zs := []) (b := false) rfl (by decide +kernel) Rd.nil (by decide)) ?_
  rintro e w' ⟨rfl, rfl⟩
  go_wp2_with fail
  refine Calls.mono (Right_is (zs := [2, 3]) (b := true) rfl (by decide +kernel) (Rd.lit2 (by go_size) (by go_cell) (by go_cell)) (by decide) (by decide)) ?_
  rintro e w' ⟨rfl, rfl⟩
  have K2 := HK.out.alloc (.cells #[.int .i64 2, .int .i64 3] 3)
  clear HK
  have HK := Lib.hid K2
  clear K2
  go_wp2_with fail
  refine Calls.mono (Right_is (zs := [2, 3]) (b := false) rfl (by decide +kernel) (Rd.lit2 (by go_size) (by go_cell) (by go_cell)) (by decide) (by decide)) ?_
  rintro e w' ⟨rfl, rfl⟩
  have K2 := HK.out.alloc (.cells #[.int .i64 2, .int .i64 3] 3)
  clear HK
  have HK := Lib.hid K2
  clear K2
  go_wp2_with fail
  refine Calls.mono (Right_is (zs := [4]) (b := false) rfl (by decide +kernel) (Rd.lit1 (by go_size) (by go_cell)) (by decide) (by decide)) ?_
  rintro e w' ⟨rfl, rfl⟩
  have K2 := HK.out.alloc (.cells #[.int .i64 4] 3)
  clear HK
  have HK := Lib.hid K2
  clear K2
  obtain ⟨_, _, s0, s1, s2⟩ := HK.out
  go_wp2_with fail
  refine Calls.mono (Pairs_is (zs := [1, 2, 3]) (L := [(1, 2), (2, 3)]) (n := 2) rfl (by decide +kernel) rfl (Rd.lit3 (by go_size) (by go_cell) (by go_cell) (by go_cell)) (by decide)) ?_
  rintro e w9 ⟨A9, c9, rfl, hr, hb⟩
  have K2 := (HK.out.alloc _).grow hb
  clear HK hb s0 s1 s2
  have HK := Lib.hid K2
  have HR := Lib.hid hr
  clear K2 hr
  go_wp2_with fail
  refine Calls.mono (SameP_is (zs := [(1, 2), (2, 3)]) rfl (rdP_later HR.out (below_new _ _)) (RdP.lit2 (by go_size) (by go_cell) (by go_cell) (by go_cell) (by go_cell)) (by decide)) ?_
  rintro e w10 ⟨rfl, hb⟩
  have K2 := (HK.out.alloc _).grow hb
  clear HK hb HR
  go_wp2
  go_ret
  exact ⟨rfl, K2.hb⟩

end Go.Proofs.Ytamgmbjcobomhaa
