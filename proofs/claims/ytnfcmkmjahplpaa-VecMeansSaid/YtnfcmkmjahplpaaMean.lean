/- The contract of vec.Mean: a loop over vectors, a loop over components inside it, and a loop over sums. -/
import Derived.Test.YtnfcmkmjahplpaaRoundRegion
namespace Go.Proofs.Ytnfcmkmjahplpaa
open Go.RowKit Go.Shelf
attribute [local go_sem] Oper.semAt_some wide_fn wide_depth

/-- Some vectors, all of one length. -/
def Alike (rows : List (List Int)) : Prop := rows ≠ [] ∧ ∀ r ∈ rows, r.length = (rows.headD []).length
def MeanOut (rows : List (List Int)) (w : World) (e : Ending) (w' : World) : Prop :=
  Below w.heap.size w w' ∧ ((¬ Alike rows ∧ e = .returned (.tuple #[.slice none 0 0, .int .i64 7])) ∨
    (Alike rows ∧ ∃ M c, e = .returned (.tuple #[.slice M (rows.headD []).length c, .int .i64 0]) ∧ Vec w' M (meanL (rows.headD []).length rows)))
def rowsOf (hs : List Hdr) : List (List Int) := hs.map (·.2.1)

/-- What stays as it is through all of Mean. -/
structure MeanKeeps (w W : World) (L : Value) (Sx Sb n : Nat) : Prop where
  list : W.cell? ⟨w.heap.size, 0, none⟩ = some L
  one : W.cell? ⟨w.heap.size + 1, 0, none⟩ = some (.slice none 0 0)
  oneF : W.frozen? ⟨w.heap.size + 1, 0, none⟩ = false
  two : W.cell? ⟨w.heap.size + 1 + 1, 0, none⟩ = some (.int .i64 0)
  twoF : W.frozen? ⟨w.heap.size + 1 + 1, 0, none⟩ = false
  sums : W.cell? ⟨Sx, 0, none⟩ = some (.slice (some ⟨Sb, 0, none⟩) n n)

theorem MeanKeeps.kept {w A B : World} {row : Option Nat} {L : Value} {Sx Sb n : Nat} (h : MeanKeeps w A L Sx Sb n) (hg : A.grownBy B row) (hr : ∀ r, row = some r → ∃ o : Obj, A.heap[r]? = some o ∧ o.isCells = false) : MeanKeeps w B L Sx Sb n :=
  ⟨cell_kept h.list hg hr, cell_kept h.one hg hr, (frozen_kept h.one hg hr).trans h.oneF, cell_kept h.two hg hr, (frozen_kept h.two hg hr).trans h.twoF, cell_kept h.sums hg hr⟩
theorem MeanKeeps.set {w W : World} {L : Value} {Sx Sb n : Nat} (h : MeanKeeps w W L Sx Sb n) (b q : Nat) (v : Value) (h1 : w.heap.size + 1 + 1 < b) (h2 : b ≠ Sx) : MeanKeeps w (W.setCell ⟨b, q, none⟩ v) L Sx Sb n := by
  have nb : ∀ c, b ≠ c → (W.setCell ⟨b, q, none⟩ v).cell? ⟨c, 0, none⟩ = W.cell? ⟨c, 0, none⟩ := fun c hne => World.cell?_setCell_other _ _ _ _ (fun h => hne (by cases h; rfl))
  exact ⟨(nb _ (by omega)).trans h.list, (nb _ (by omega)).trans h.one, by rw [World.frozen?_setCell]; exact h.oneF, (nb _ (by omega)).trans h.two, by rw [World.frozen?_setCell]; exact h.twoF, (nb _ h2).trans h.sums⟩
theorem MeanKeeps.alloc {w W : World} {L : Value} {Sx Sb n : Nat} (h : MeanKeeps w W L Sx Sb n) (o : Obj) : MeanKeeps w (W.alloc o) L Sx Sb n := h.kept (World.grownBy_alloc W o none) (fun r e => by cases e)
theorem own_lt {w : World} {base : Nat} {e : TypeId} {size n c g k : Nat} {xs : List Value} (h : w.ownsRow base e size (.slice (some ⟨g, 0, none⟩) n c) k xs) : g < w.heap.size := by
  rcases h.2 with ⟨h1, _⟩ | ⟨g', cap, cur, h1, _, hh, _⟩
  · cases h1
  · injection h1 with h1 _ _
    injection h1 with h1
    injection h1 with h1 _
    subst h1
    exact (Array.getElem?_eq_some_iff.1 hh).1

/-- The vectors that have come. -/
def rowsP (hs : List Hdr) (pre : List (Pl hs.length)) : List (List Int) := pre.map fun x => (hdrAt hs x.1).2.1
theorem rowsP_snoc (hs : List Hdr) (pre : List (Pl hs.length)) (x : Pl hs.length) : rowsP hs (pre ++ [x]) = rowsP hs pre ++ [(hdrAt hs x.1).2.1] := by simp [rowsP]
theorem rowsP_all (hs : List Hdr) (pre : List (Pl hs.length)) (h : UpTo hs.length pre) : rowsP hs pre = rowsOf hs := by
  have e : rowsP hs pre = (pre.map (·.1)).map fun k => (hdrAt hs k).2.1 := by rw [rowsP, List.map_map]; rfl
  rw [e, h, rowsOf]
  refine List.ext_getElem (by simp) fun k h1 h2 => ?_
  have hk : k < hs.length := by simpa using h1
  have := hdrAt_lt hk
  rw [List.getElem?_eq_getElem hk] at this
  injection this with this
  simp [← this]

/-- Between two vectors; and behind one that is not as long as the first. -/
def MeanI (hs : List Hdr) (w : World) (L : Value) (Sx Sb n : Nat) (pre : List (Pl hs.length)) (W : World) : Prop :=
  (MeanKeeps w W L Sx Sb n ∧ Arr (Value.int .i64) W Sb (sumsL n (rowsP hs pre)) ∧ Hid (∀ x ∈ pre, (hdrAt hs x.1).2.1.length = n)) ∧ Below w.heap.size w W
def MeanX (hs : List Hdr) (w : World) (n : Nat) (c : Code) (_ : List (Pl hs.length)) (W : World) : Prop :=
  (c = .ret ∧ Hid (∃ x : Pl hs.length, (hdrAt hs x.1).2.1.length ≠ n) ∧ W.cell? ⟨w.heap.size + 1, 0, none⟩ = some (.slice none 0 0) ∧ W.cell? ⟨w.heap.size + 1 + 1, 0, none⟩ = some (.int .i64 7)) ∧ Below w.heap.size w W
/-- Between two components. -/
def MeanJ (w W0 W : World) (L : Value) (Sx Sb n : Nat) (r : List Int) (S : List Int) (pre : List (Pl r.length)) (W' : World) : Prop :=
  (MeanKeeps w W' L Sx Sb n ∧ Arr (Value.int .i64) W' Sb (updF (fun c i => wrap64 (c + cpt r i)) S pre)) ∧ (Below w.heap.size W W' ∧ KeepsFrom W0.heap.size W W')

theorem Arr.other {f : Int → Value} {w : World} {b c : Nat} {S : List Int} (h : Arr f w b S) (hne : c ≠ b) (q : Nat) (v : Value) : Arr f (w.setCell ⟨c, q, none⟩ v) b S := fun j z hj => by
  obtain ⟨h1, h2⟩ := h j z hj
  exact ⟨(World.cell?_setCell_other _ _ _ _ (fun h => hne (by cases h; rfl))).trans h1, by rw [World.frozen?_setCell]; exact h2⟩
theorem ownFrom_heap {β : Type} {B D : Nat} {o : Obj} (h : D < B) : OwnFrom B (fun (_ : β) W => W.heap[D]? = some o) := fun _ A B' row hs hg hr =>
  (hg.block D (Array.getElem?_eq_some_iff.1 hs).1 (fun e => by have := (hr D e.symm).1; omega)).trans hs
theorem rows_head {hs : List Hdr} (h : 0 < hs.length) : ((rowsOf hs).headD []).length = (hdrAt hs 0).2.1.length := by
  cases hs with
  | nil => simp at h
  | cons x r => rfl
theorem rows_not {hs : List Hdr} {n : Nat} (h : 0 < hs.length) (hn : (hdrAt hs 0).2.1.length = n) (x : Pl hs.length) (hx : (hdrAt hs x.1).2.1.length ≠ n) : ¬ Alike (rowsOf hs) := fun ha => by
  have := ha.2 _ (List.mem_map_of_mem (hdrAt_mem x.2))
  rw [rows_head h, hn] at this
  exact hx this
theorem rows_all {hs : List Hdr} {n : Nat} (h : 0 < hs.length) (hn : (hdrAt hs 0).2.1.length = n) (pre : List (Pl hs.length)) (hU : UpTo hs.length pre) (hp : ∀ x ∈ pre, (hdrAt hs x.1).2.1.length = n) : Alike (rowsOf hs) := by
  refine ⟨fun e => ?_, fun r hr => ?_⟩
  · simp only [rowsOf, List.map_eq_nil_iff] at e
    subst e
    exact absurd h (Nat.lt_irrefl 0)
  · rw [rows_head h, hn]
    rw [← rowsP_all hs pre hU] at hr
    obtain ⟨x, hx, rfl⟩ := List.mem_map.1 hr
    exact hp x hx
/-- Between two sums. -/
def MeanT (w : World) (L : Value) (Sx Sb Mx Mb D n m : Nat) (S : List Int) (pre : List (Pl S.length)) (W : World) : Prop :=
  ((MeanKeeps w W L Sx Sb n ∧ Arr (Value.int .i32) W Mb (updF (fun _ i => wrap32 (cpt S i / (m : Int))) (List.replicate n 0) pre) ∧ W.cell? ⟨Mx, 0, none⟩ = some (.slice (some ⟨Mb, 0, none⟩) n n)) ∧ Below w.heap.size w W) ∧ W.heap[D]? = some (.deferred (some []))

theorem wrap_i32_32 (n : Int) : IntKind.i32.wrap n = wrap32 n := by rw [Go.IntKind.wrap_i32, wrap32]
theorem mean_start {w w4 : World} {L : Value} {T1 T2 T3 : TypeId} (hgr : (((w.alloc (.cells #[L] T1)).alloc (.cells #[.slice none 0 0] T2)).alloc (.cells #[.int .i64 0] T3)).grownBy w4 none) :
    Below w.heap.size w w4 ∧ w.heap.size + 3 ≤ w4.heap.size ∧ Boxed w4 w.heap.size T1 L ∧ Boxed w4 (w.heap.size + 1) T2 (.slice none 0 0) ∧ Boxed w4 (w.heap.size + 1 + 1) T3 (.int .i64 0) := by
  have hsz := hgr.size
  simp only [World.size_alloc] at hsz
  have b1 := Boxed.new w T1 L
  have b2 := Boxed.new (w.alloc (.cells #[L] T1)) T2 (.slice none 0 0)
  have b3 := Boxed.new ((w.alloc (.cells #[L] T1)).alloc (.cells #[.slice none 0 0] T2)) T3 (.int .i64 0)
  simp only [World.size_alloc] at b2 b3
  have hb : Below w.heap.size w (((w.alloc (.cells #[L] T1)).alloc (.cells #[.slice none 0 0] T2)).alloc (.cells #[.int .i64 0] T3)) :=
    (((Below.refl _ w).alloc (Nat.le_refl _) _).alloc (by simp) _).alloc (by simp; omega) _
  exact ⟨hb.grown hgr (by simp; omega) (fun k e => by cases e), by omega, ((b1.alloc _).alloc _).kept hgr (by simp), (b2.alloc _).kept hgr (by simp), b3.kept hgr (by simp)⟩

set_option maxRecDepth 100000 in
set_option maxHeartbeats 4000000 in
theorem Mean_some (A : Option Addr) (hs : List Hdr) (c n : Nat) (w : World) (hR : Rd hdrV w w.heap.size A hs) (hl : hs.length ≤ 9223372036854775807) (hv : ∀ h ∈ hs, Vec w h.1 h.2.1) (hne : 0 < hs.length)
    (hn : (hdrAt hs 0).2.1.length = n) (hn' : n ≤ 1000000) : CallsIn Fence.wide 9 Try.prog 8 #[.slice A hs.length c] w (MeanOut (rowsOf hs) w) := by
  obtain ⟨i8, hi8, hz8, hy8, hx8⟩ := info_parts info_i64
  have hb8 : i8.bytes * n ≤ 281474976710656 := by rw [hx8]; omega
  have hml : n ≤ maxLen := by unfold maxLen; omega
  have hnz : ((hs.length : Int) == 0) = false := by rw [beq_eq_false_iff_ne]; omega
  have hlz : (0 : Int) < (hs.length : Int) := by omega
  obtain ⟨b0, off0, hA0, hbb0, hc0⟩ := hR 0 _ (hdrAt_lt hne)
  subst hA0
  have HV := Lib.hid hv
  have HR := Lib.hid hR
  clear hv hR
  unfold hdrV at hc0
  rw [hn, Nat.add_zero] at hc0
  have hc1 : ∀ O1 O2 O3, (((w.alloc O1).alloc O2).alloc O3).cell? ⟨b0, off0, none⟩ = some (.slice (hdrAt hs 0).1 n (hdrAt hs 0).2.2) := fun O1 O2 O3 =>
    ((((Below.refl w.heap.size w).alloc (Nat.le_refl _) O1).alloc (by simp) O2).alloc (by simp; omega) O3).cell (p := ⟨b0, off0, none⟩) hbb0 |>.trans hc0
  have HN := Lib.hid hn
  clear hn
  refine callsIn_of_wp_marks Try.func8 rfl trivial ?_ rfl
  simp only [Try.ntmps8, List.size_toArray, List.length_cons, List.length_nil, Nat.reduceAdd, Nat.reduceSub, Array.replicate_succ, Array.replicate_zero, List.push_toArray, List.append_toArray, List.nil_append, List.cons_append]
  gi_wp2_with (first
    | (gi_at_make; refine wpListIn_make_full _ rfl _ _ _ rfl w.heap.size 2 i8 (.int .i64 0) 1 Try.underlying36 hi8 hz8 hy8 _ _ _ _ n rfl rfl rfl rfl hb8 hml (by simp; omega) ?_; intro w4 hown hgr; obtain ⟨m1, m2, m3, m4, m5⟩ := mean_start hgr; have hL := fun O => (m3.alloc O).cell)
    | (gi_at_call 17; refine CallsIn.mono (callsIn_wide.2 (valuesR_any _ _ _ _)) ?_; rintro e w' ⟨rfl, rfl⟩))
  have hSb := own_lt hown
  simp only [World.size_alloc] at hSb
  have hArr := Arr.of_own (made_i64 hown)
  simp only [World.size_alloc] at hArr
  have b4 := Boxed.new w4 36 (.slice (some ⟨w.heap.size + 1 + 1 + 1, 0, none⟩) n n)
  have b5 := Boxed.new (w4.alloc (.cells #[.slice (some ⟨w.heap.size + 1 + 1 + 1, 0, none⟩) n n] 36)) 22 (.slice (some ⟨b0, off0, none⟩) hs.length c)
  have hB5 : Below w4.heap.size w4 ((w4.alloc (.cells #[.slice (some ⟨w.heap.size + 1 + 1 + 1, 0, none⟩) n n] 36)).alloc (.cells #[.slice (some ⟨b0, off0, none⟩) hs.length c] 22)) :=
    ((Below.refl _ w4).alloc (Nat.le_refl _) _).alloc (by simp) _
  rw [World.size_alloc] at b5
  have b4' := b4.alloc (.cells #[.slice (some ⟨b0, off0, none⟩) hs.length c] 22)
  obtain ⟨W0, hW0⟩ : ∃ W0, (w4.alloc (.cells #[.slice (some ⟨w.heap.size + 1 + 1 + 1, 0, none⟩) n n] 36)).alloc (.cells #[.slice (some ⟨b0, off0, none⟩) hs.length c] 22) = W0 := ⟨_, rfl⟩
  have hs0 : W0.heap.size = w4.heap.size + 1 + 1 := by rw [← hW0]; simp
  rw [hW0] at hB5 b5 b4' ⊢
  have hB0 : Below w.heap.size w W0 := m1.trans (hB5.mono (by omega))
  have hA0 := hArr.below hB5 hSb
  have hM0 : MeanKeeps w W0 (.slice (some ⟨b0, off0, none⟩) hs.length c) w4.heap.size (w.heap.size + 1 + 1 + 1) n :=
    ⟨(hB5.cell (p := ⟨w.heap.size, 0, none⟩) (by show w.heap.size < _; omega)).trans m3.cell, (hB5.cell (p := ⟨w.heap.size + 1, 0, none⟩) (by show w.heap.size + 1 < _; omega)).trans m4.cell,
      (hB5.frozen (p := ⟨w.heap.size + 1, 0, none⟩) (by show w.heap.size + 1 < _; omega)).trans m4.frozen, (hB5.cell (p := ⟨w.heap.size + 1 + 1, 0, none⟩) (by show w.heap.size + 1 + 1 < _; omega)).trans m5.cell,
      (hB5.frozen (p := ⟨w.heap.size + 1 + 1, 0, none⟩) (by show w.heap.size + 1 + 1 < _; omega)).trans m5.frozen, b4'.cell⟩
  rw [← sumsL_zero] at hA0
  clear hW0 hB5 hArr hown hgr m1 m3 m4 m5 b4 b4' hL hc0 hc1 hi8 hz8 hy8 hx8 hb8 hml
  generalize w4.heap.size = Sx at *
  refine wpIn_rangeFunc_ownH rfl (by decide) (gf := 28) (lb := #[.pointer (some ⟨Sx + 1, 0, none⟩)]) rfl trivial (enters_of Try.func28 (by kernel_rfl) rfl)
    (valuesR_stops (9 - 1) w.heap.size (Sx + 1) (some ⟨b0, off0, none⟩) hs c hl W0 (by omega) (by omega) (HR.out.below hB0) b5.cell) belowK_t (belowK_b (by omega)) (Below.refl _ _) (fun _ => rfl)
    (MeanI hs w (.slice (some ⟨b0, off0, none⟩) hs.length c) Sx (w.heap.size + 1 + 1 + 1) n) (MeanX hs w n)
    (OwnFrom.and (Own.from (fun s A B row hs hg hr => ⟨hs.1.kept hg hr, hs.2.1.kept hg hr, hs.2.2⟩) _) (ownFrom_below (Nat.le_refl _) (by omega)))
    (fun c => OwnFrom.and (Own.from (fun s A B row hs hg hr => ⟨hs.1, hs.2.1, cell_kept hs.2.2.1 hg hr, cell_kept hs.2.2.2 hg hr⟩) _) (ownFrom_below (Nat.le_refl _) (by omega)))
    ⟨⟨hM0, hA0, by rw [Hid]; simp⟩, hB0⟩
    (fun x a' _ => a' = { tmps := #[.slice (some ⟨b0, off0, none⟩) hs.length c, .pointer (some ⟨w.heap.size, 0, none⟩), .pointer (some ⟨w.heap.size + 1, 0, none⟩), .pointer (some ⟨w.heap.size + 1 + 1, 0, none⟩), .pointer (some ⟨Sx, 0, none⟩),
      hdrV (hdrAt hs x.1), undef, undef, undef, undef, undef, .slice (some ⟨b0, off0, none⟩) hs.length c, .int .i64 hs.length, .bool false, .slice (some ⟨b0, off0, none⟩) hs.length c, .pointer (some ⟨b0, off0, none⟩),
      .slice (hdrAt hs 0).1 n (hdrAt hs 0).2.2, .int .i64 n, .slice (some ⟨w.heap.size + 1 + 1 + 1, 0, none⟩) n n, .slice (some ⟨b0, off0, none⟩) hs.length c, .func (.func 28) #[] #[.pointer (some ⟨Sx + 1, 0, none⟩)],
      hdrV (hdrAt hs x.1), undef, undef, undef, undef, undef, undef, undef, undef, undef, undef, undef, undef, undef, undef, undef, undef, undef, undef, undef, undef, undef, undef, undef, undef, undef, undef, undef, undef, undef, undef, undef, undef, undef], defers := [] })
    (fun _ _ => ownFrom_pure _ _) ?assign ?body ?done ?stop
  case assign =>
    intro l pre x W K hI hK
    unfold hdrV at hK ⊢
    gi_wp2
    exact hK _ _ (KeepsFrom.refl _ _) (Below.refl _ _) hI rfl
  case body =>
    rintro l pre x a' W hl0 ⟨r, hr⟩ ⟨⟨hM, hS, hP⟩, hB⟩ rfl hlt
    have hx := x.2
    have hvx := HV.out _ (hdrAt_mem hx)
    have hlW := (Array.getElem?_eq_some_iff.1 hr).1
    have hsn := Lib.hid (rowsP_snoc hs pre x)
    have hxP : (hdrAt hs x.1).2.1.length = n → Hid (∀ y ∈ pre ++ [x], (hdrAt hs y.1).2.1.length = n) := fun he y hy => (List.mem_append.1 hy).elim (hP.out y) (fun e => by simp at e; subst e; exact he)
    have hxN : (hdrAt hs x.1).2.1.length ≠ n → Hid (∃ y : Pl hs.length, (hdrAt hs y.1).2.1.length ≠ n) := fun he => ⟨x, he⟩
    unfold hdrV
    obtain ⟨V, hV1⟩ : ∃ V, (hdrAt hs x.1).1 = V := ⟨_, rfl⟩
    obtain ⟨zs, hV2⟩ : ∃ zs, (hdrAt hs x.1).2.1 = zs := ⟨_, rfl⟩
    obtain ⟨cv, hV3⟩ : ∃ cv, (hdrAt hs x.1).2.2 = cv := ⟨_, rfl⟩
    rw [hV1, hV2, hV3]
    rw [hV1, hV2] at hvx
    rw [hV2] at hsn hxP hxN
    clear hV1 hV2 hV3
    obtain ⟨y1, y2, y3, y4, y5, y6⟩ := hM
    by_cases hzn : zs.length = n
    · have hxP' := hxP hzn
      clear hxP hxN hP
      subst hzn
      have hzl := hvx.len
      gi_wp2_with (gi_at_call 18; refine CallsIn.mono (callsIn_wide.2 (all32_any _ _ _ _)) ?_; rintro e w' ⟨rfl, rfl⟩)
      have hM : MeanKeeps w W (.slice (some ⟨b0, off0, none⟩) hs.length c) Sx (w.heap.size + 1 + 1 + 1) zs.length := ⟨y1, y2, y3, y4, y5, y6⟩
      have bv := Boxed.new W 24 (.slice V zs.length cv)
      have hBv : Below w.heap.size w (W.alloc (.cells #[.slice V zs.length cv] 24)) := hB.alloc hB.size _
      have hszW := hB.size
      refine wpIn_rangeFunc_ownN (l₀ := l) (r₀ := r) rfl ((Below.heap_alloc W _ l (Array.getElem?_eq_some_iff.1 hr).1).trans hr) (by decide) (gf := 29) (lb := #[.pointer (some ⟨W.heap.size, 0, none⟩)]) rfl trivial (enters_of Try.func29 (by kernel_rfl) rfl)
        ((all32_stops (9 - 1 - 1 - 1) w.heap.size W.heap.size V zs cv hzl (W.alloc (.cells #[.slice V zs.length cv] 24)) (by simp; omega) (by simp) (hvx.rd.below hBv) bv.cell).inRound l)
        belowK_t (belowK_b (by simp; omega)) (Below.refl _ _) (fun _ => rfl)
        (MeanJ w W0 W (.slice (some ⟨b0, off0, none⟩) hs.length c) Sx (w.heap.size + 1 + 1 + 1) zs.length zs (sumsL zs.length (rowsP hs pre))) (fun _ _ _ => False)
        (OwnFrom.and (Own.from (fun s A B row hs hg hr => ⟨hs.1.kept hg hr, hs.2.kept hg hr⟩) _) (OwnFrom.and (ownFrom_below hszW (by simp; omega)) (ownFrom_keepsFrom (by simp))))
        (fun _ _ _ _ _ hs _ _ => hs)
        ⟨⟨hM.alloc _, hS.below ((Below.refl W.heap.size W).alloc (Nat.le_refl _) _) (by omega)⟩, (Below.refl _ W).alloc hszW _, (KeepsOthers.alloc _ _).from _⟩
        (fun y a' _ => a' = { tmps := #[.slice (some ⟨b0, off0, none⟩) hs.length c, .pointer (some ⟨w.heap.size, 0, none⟩), .pointer (some ⟨w.heap.size + 1, 0, none⟩), .pointer (some ⟨w.heap.size + 1 + 1, 0, none⟩), .pointer (some ⟨Sx, 0, none⟩),
          .slice V zs.length cv, .int .i64 (y.1 : Nat), .int .i32 (cpt zs y.1), undef, undef, undef, .slice (some ⟨b0, off0, none⟩) hs.length c, .int .i64 hs.length, .bool false, .slice (some ⟨b0, off0, none⟩) hs.length c, .pointer (some ⟨b0, off0, none⟩),
          .slice (hdrAt hs 0).1 zs.length (hdrAt hs 0).2.2, .int .i64 zs.length, .slice (some ⟨w.heap.size + 1 + 1 + 1, 0, none⟩) zs.length zs.length, .slice (some ⟨b0, off0, none⟩) hs.length c, .func (.func 28) #[] #[.pointer (some ⟨Sx + 1, 0, none⟩)],
          .slice V zs.length cv, .slice V zs.length cv, .int .i64 zs.length, .slice (some ⟨w.heap.size + 1 + 1 + 1, 0, none⟩) zs.length zs.length, .int .i64 zs.length, .bool false, .slice V zs.length cv, .func (.func 29) #[] #[.pointer (some ⟨W.heap.size, 0, none⟩)],
          .int .i64 (y.1 : Nat), .int .i32 (cpt zs y.1), undef, undef, undef, undef, undef, undef, undef, undef, undef, undef, undef, undef, undef, undef, undef, undef, undef, undef, undef, undef, undef, undef, undef, undef], defers := [] })
        (fun _ _ => ownFrom_pure _ _) ?assign2 ?body2 ?done2 ?stop2
      case assign2 =>
        intro l2 pre2 y W2 K hI hK
        gi_wp2
        exact hK _ _ (KeepsFrom.refl _ _) (Below.refl _ _) hI rfl
      case body2 =>
        rintro l2 pre2 ⟨k, hk⟩ a' W2 hl2 _ ⟨⟨hM2, hS2⟩, hB2, hK2⟩ rfl _
        have hlen : k < (updF (fun c i => wrap64 (c + cpt zs i)) (sumsL zs.length (rowsP hs pre)) pre2).length := by rw [updF_length, sumsL_length]; exact hk
        have hus := Lib.hid (updF_snoc (fun c i => wrap64 (c + cpt zs i)) (sumsL zs.length (rowsP hs pre)) pre2 ⟨k, hk⟩)
        dsimp only at hus
        obtain ⟨hcl, hfz⟩ := hS2 k _ (cpt_lt hlen)
        have hst := Lib.hid (hS2.store k (wrap64 (cpt (updF (fun c i => wrap64 (c + cpt zs i)) (sumsL zs.length (rowsP hs pre)) pre2) k + cpt zs k)))
        have hzb := hvx.all _ (cpt_mem hk)
        have hkz : (k : Int) < (zs.length : Int) := by omega
        have hk0 : (0 : Int) ≤ (k : Int) := by omega
        have hSM := Lib.hid hM2
        obtain ⟨z1, z2, z3, z4, z5, z6⟩ := hM2
        clear hS2 y1 y2 y3 y4 y5 y6 hM hS bv
        generalize cpt (updF (fun c i => wrap64 (c + cpt zs i)) (sumsL zs.length (rowsP hs pre)) pre2) k = u at *
        generalize cpt zs k = z at *
        gi_wp2
        exact ⟨(KeepsOthers.setCell _ _ _).from _, (Below.refl w.heap.size W2).setCell (p := ⟨w.heap.size + 1 + 1 + 1, k, none⟩) (by show w.heap.size ≤ w.heap.size + 1 + 1 + 1; omega) _,
          ⟨hSM.out.set _ _ _ (by omega) (by omega), by rw [hus.out]; exact hst.out⟩, hB2.setCell (p := ⟨w.heap.size + 1 + 1 + 1, k, none⟩) (by show w.heap.size ≤ w.heap.size + 1 + 1 + 1; omega) _,
          hK2.trans ((KeepsOthers.setCell _ _ _).from _)⟩
      case done2 =>
        rintro pre2 W2 hU2 ⟨⟨hM2, hS2⟩, hB2, hK2⟩
        rw [sumsL_snoc _ _ rfl _ hU2, ← hsn.out] at hS2
        gi_wp2
        exact ⟨hK2, hB2, ⟨hM2, hS2, hxP'⟩, hB.trans hB2⟩
      case stop2 =>
        rintro c2 pre2 W2 _ h
        exact h.elim
    · have hxN' := hxN hzn
      clear hxP hxN hP
      have hq : ((zs.length : Int) != (n : Int)) = true := by simp; omega
      gi_wp2
      have hne1 : (⟨w.heap.size + 1, 0, none⟩ : Addr) ≠ ⟨w.heap.size + 1 + 1, 0, none⟩ := fun h => by injection h with h; omega
      refine ⟨((KeepsOthers.setCell _ _ _).trans (KeepsOthers.setCell _ _ _)).from _, ⟨rfl, hxN', ?_, ?_⟩, (hB.setCell (p := ⟨w.heap.size + 1, 0, none⟩) (by show _ ≤ w.heap.size + 1; omega) _).setCell (p := ⟨w.heap.size + 1 + 1, 0, none⟩) (by show _ ≤ w.heap.size + 1 + 1; omega) _⟩
      · exact (World.cell?_setCell_other _ _ _ _ hne1.symm).trans (World.cell?_setCell_same' _ _ _ (by rw [y2]; rfl))
      · exact World.cell?_setCell_same' _ _ _ (by rw [World.cell?_setCell_other _ _ _ _ hne1, y4]; rfl)
  case done =>
    rintro D pre W hD hU ⟨⟨hM, hS, hP⟩, hB⟩ hK
    have hAl := Lib.hid (rows_all hne HN.out pre hU hP.out)
    have hDW := (Array.getElem?_eq_some_iff.1 hK).1
    rw [rowsP_all hs pre hU] at hS
    obtain ⟨i4, hi4, hz4, hy4, hx4⟩ := info_parts info_i32
    have hb4 : i4.bytes * n ≤ 281474976710656 := by rw [hx4]; omega
    have hml : n ≤ maxLen := by unfold maxLen; omega
    have hS6 := hM.sums
    gi_wp2_with (first
      | (gi_at_make; refine wpListIn_make_full _ rfl _ _ _ rfl W.heap.size 21 i4 (.int .i32 0) 1 Try.underlying24 hi4 hz4 hy4 _ _ _ _ n rfl rfl rfl rfl hb4 hml (Nat.le_refl _) ?_; intro w8 hown8 hgr8; have hM8 := hM.kept hgr8 (fun r e => by cases e); have hL8 := fun O => (hM8.alloc O).sums)
      | (gi_at_call 19; refine CallsIn.mono (callsIn_wide.2 (all64_any _ _ _ _)) ?_; rintro e w' ⟨rfl, rfl⟩))
    have hMb := own_lt hown8
    have hArr8 := Arr.of_own (made_i32 hown8)
    have hSxW : Sx + 1 + 1 ≤ D := by omega
    have hB8 : Below W.heap.size W w8 := (Below.refl W.heap.size W).grown hgr8 (Nat.le_refl _) (fun _ e => by cases e)
    have hD8 : w8.heap[D]? = some (.deferred (some [])) := (hB8.block D hDW).trans hK
    have hS8 := hS.below hB8 (by omega)
    have bm := Boxed.new w8 24 (.slice (some ⟨W.heap.size, 0, none⟩) n n)
    have bs := Boxed.new (w8.alloc (.cells #[.slice (some ⟨W.heap.size, 0, none⟩) n n] 24)) 36 (.slice (some ⟨w.heap.size + 1 + 1 + 1, 0, none⟩) n n)
    rw [World.size_alloc] at bs
    have bm' := bm.alloc (.cells #[.slice (some ⟨w.heap.size + 1 + 1 + 1, 0, none⟩) n n] 36)
    have hB9 : Below w8.heap.size w8 ((w8.alloc (.cells #[.slice (some ⟨W.heap.size, 0, none⟩) n n] 24)).alloc (.cells #[.slice (some ⟨w.heap.size + 1 + 1 + 1, 0, none⟩) n n] 36)) :=
      ((Below.refl _ w8).alloc (Nat.le_refl _) _).alloc (by simp) _
    have hM9 := (hM8.alloc (.cells #[.slice (some ⟨W.heap.size, 0, none⟩) n n] 24)).alloc (.cells #[.slice (some ⟨w.heap.size + 1 + 1 + 1, 0, none⟩) n n] 36)
    obtain ⟨W9, hW9⟩ : ∃ W9, (w8.alloc (.cells #[.slice (some ⟨W.heap.size, 0, none⟩) n n] 24)).alloc (.cells #[.slice (some ⟨w.heap.size + 1 + 1 + 1, 0, none⟩) n n] 36) = W9 := ⟨_, rfl⟩
    have hs9 : W9.heap.size = w8.heap.size + 1 + 1 := by rw [← hW9]; simp
    rw [hW9] at bs bm' hB9 hM9 ⊢
    have hszB := hB.size
    have hszB8 := hB8.size
    have hBW9 : Below w.heap.size w W9 := (hB.trans (hB8.mono hszB)).trans (hB9.mono (by omega))
    have hS9 := (hS8.below hB9 (by omega)).rd (B := W.heap.size) (by omega)
    have hA9 := hArr8.below hB9 hMb
    have hD9 : W9.heap[D]? = some (.deferred (some [])) := (hB9.block D (by omega)).trans hD8
    clear hW9 hM8 hL8 hgr8 hown8 hArr8 hS8 bm hS hS6 hM hi4 hz4 hy4 hx4 hb4 hml hB8 hB9 hP
    obtain ⟨S, hSe⟩ : ∃ S, sumsL n (rowsOf hs) = S := ⟨_, rfl⟩
    have hSl : S.length = n := by rw [← hSe, sumsL_length]
    rw [hSe] at hS9
    have hML := Lib.hid (meanL_upd n (rowsOf hs) S hSe.symm)
    have hSB := Lib.hid (fun k (hk : k < S.length) => show -9223372036854775808 ≤ cpt S k ∧ cpt S k ≤ 9223372036854775807 by rw [← hSe, sumsL_cpt _ _ _ (by omega)]; exact colS_bounds _ _)
    have hRL := Lib.hid (show (rowsOf hs).length = hs.length by simp [rowsOf])
    rw [hRL.out] at hML
    clear hSe
    subst hSl
    have hmix : Try.prog.follows .mixedOrders = true := by kernel_rfl
    generalize w8.heap.size = Mx at *
    refine wpIn_rangeFunc_ownG rfl (by decide) (gf := 30) (lb := #[.pointer (some ⟨Mx + 1, 0, none⟩)]) rfl trivial (enters_of Try.func30 (by kernel_rfl) rfl)
      (all64_stops (9 - 1) W.heap.size (Mx + 1) (some ⟨w.heap.size + 1 + 1 + 1, 0, none⟩) S S.length (by omega) W9 (by omega) (by omega) hS9 bs.cell) belowK_t (belowK_b (by omega)) (Below.refl _ _) (fun _ => rfl)
      (MeanT w (.slice (some ⟨b0, off0, none⟩) hs.length c) Sx (w.heap.size + 1 + 1 + 1) Mx W.heap.size D S.length hs.length S) (fun _ _ _ => False)
      (OwnFrom.and (OwnFrom.and (Own.from (fun s A B row hs hg hr => ⟨hs.1.kept hg hr, hs.2.1.kept hg hr, cell_kept hs.2.2 hg hr⟩) _) (ownFrom_below (Nat.le_refl _) (by omega))) (ownFrom_heap (by omega)))
      (fun _ _ _ _ _ hs _ _ => hs)
      ⟨⟨⟨hM9, hA9, bm'.cell⟩, hBW9⟩, hD9⟩
      (fun x => { tmps := #[.slice (some ⟨b0, off0, none⟩) hs.length c, .pointer (some ⟨w.heap.size, 0, none⟩), .pointer (some ⟨w.heap.size + 1, 0, none⟩), .pointer (some ⟨w.heap.size + 1 + 1, 0, none⟩), .pointer (some ⟨Sx, 0, none⟩),
        undef, undef, undef, .pointer (some ⟨Mx, 0, none⟩), .int .i64 (x.1 : Nat), .int .i64 (cpt S x.1), .slice (some ⟨b0, off0, none⟩) hs.length c, .int .i64 hs.length, .bool false, .slice (some ⟨b0, off0, none⟩) hs.length c, .pointer (some ⟨b0, off0, none⟩),
        .slice (hdrAt hs 0).1 S.length (hdrAt hs 0).2.2, .int .i64 S.length, .slice (some ⟨w.heap.size + 1 + 1 + 1, 0, none⟩) S.length S.length, .slice (some ⟨b0, off0, none⟩) hs.length c, .func (.func 28) #[] #[.pointer (some ⟨Sx + 1, 0, none⟩)],
        undef, undef, undef, undef, undef, undef, undef, undef, undef, undef, undef, undef, undef, undef, undef, undef, undef, undef,
        .slice (some ⟨w.heap.size + 1 + 1 + 1, 0, none⟩) S.length S.length, .int .i64 S.length, .slice (some ⟨W.heap.size, 0, none⟩) S.length S.length, .slice (some ⟨w.heap.size + 1 + 1 + 1, 0, none⟩) S.length S.length,
        .func (.func 30) #[] #[.pointer (some ⟨Mx + 1, 0, none⟩)], .int .i64 (x.1 : Nat), .int .i64 (cpt S x.1), undef, undef, undef, undef, undef, undef, undef, undef, undef], defers := [] }) ?assign3 ?body3 ?done3 ?stop3
    case assign3 =>
      intro l x W2 K hK
      gi_wp2
      exact hK
    case body3 =>
      rintro l pre3 ⟨k, hk⟩ W2 ⟨⟨⟨hM2, hA2, hm2⟩, hB2⟩, hD2⟩ _
      have hlen : k < (updF (fun _ i => wrap32 (cpt S i / (hs.length : Int))) (List.replicate S.length 0) pre3).length := by rw [updF_length, List.length_replicate]; exact hk
      have hus := Lib.hid (updF_snoc (fun _ i => wrap32 (cpt S i / (hs.length : Int))) (List.replicate S.length 0) pre3 ⟨k, hk⟩)
      dsimp only at hus
      obtain ⟨hcl, hfz⟩ := hA2 k _ (cpt_lt hlen)
      have hst := Lib.hid (hA2.store k (wrap32 (cpt S k / (hs.length : Int))))
      have hQ := Lib.hid (fun w => quotient_any (cpt S k) hs.length w (hSB.out k hk) hlz (by omega))
      have hkz : (k : Int) < (S.length : Int) := by omega
      have hk0 : (0 : Int) ≤ (k : Int) := by omega
      have hSM := Lib.hid hM2
      have hMM := hm2
      obtain ⟨z1, z2, z3, z4, z5, z6⟩ := hM2
      clear hA2 bs bm' hS9 hA9 hM9 hD9
      generalize cpt (updF (fun _ i => wrap32 (cpt S i / (hs.length : Int))) (List.replicate S.length 0) pre3) k = v at *
      dsimp only
      obtain ⟨u, hu⟩ : ∃ u, cpt S k = u := ⟨_, rfl⟩
      rw [hu] at hQ hst hus ⊢
      gi_wp2
      have hfin : ∀ a', Exit.inBlock 5 (ownPostG W9.heap.size (Below W.heap.size)
          (MeanT w (.slice (some ⟨b0, off0, none⟩) hs.length c) Sx (w.heap.size + 1 + 1 + 1) Mx W.heap.size D S.length hs.length S) (fun _ _ _ => False) (pre3 ++ [⟨k, hk⟩]) W2) Exit.normal a'
          (W2.setCell ⟨W.heap.size, k, none⟩ (.int .i32 (wrap32 (u / (hs.length : Int))))).drew := fun a' =>
        ⟨((KeepsOthers.setCell _ _ _).trans (KeepsOthers.drew _)).from _, ((Below.refl W.heap.size W2).setCell (p := ⟨W.heap.size, k, none⟩) (Nat.le_refl _) _).trans (below_draws _ 1 _),
          ⟨⟨(hSM.out.set W.heap.size k (.int .i32 (wrap32 (u / (hs.length : Int)))) (by omega) (by omega)).kept (grownBy_drew _) (fun r e => by cases e), by rw [hus.out]; exact hst.out.kept (grownBy_drew _) (fun r e => by cases e), (World.cell?_setCell_other _ _ _ _ (fun h => by injection h with h; omega)).trans hMM⟩,
            (hB2.setCell (p := ⟨W.heap.size, k, none⟩) hszB _).trans (below_draws _ 1 _)⟩, (KeepsOthers.setCell W2 _ _).same D _ hD2 rfl⟩
      refine wpIn_region_any hmix (anyIn_round (no_defers (by kernel_rfl)) _ _ _ _ ?_)
      change wpAnyIn _ _ _ _ _ _ _ _ _ (World.drew _)
      refine wpAnyIn_take (i := 1) (v := .int .i64 k) rfl rfl (by kernel_rfl) (by kernel_rfl) (by kernel_rfl) (fun _ _ _ h => h) ⟨Or.inl ⟨by rfl, fun w => by go_simp⟩, fun _ => rfl⟩ ?_
      refine wpAnyIn_take (i := 2) (v := .int .i64 u) rfl rfl (by kernel_rfl) (by kernel_rfl) (by kernel_rfl) (fun _ _ _ h => h) ⟨Or.inl ⟨by rfl, fun w => by go_simp⟩, fun _ => rfl⟩ ?_
      refine wpAnyIn_ready (rs := [0, 3]) (by kernel_rfl) (by simp) (AllReadyIn.cons rfl (fun K hK => ?_) ?_)
      · go_simp
        refine hK _ _ ?_
        clear hK K
        refine wpAnyIn_ready (rs := [3]) (by kernel_rfl) (by simp) (AllReadyIn.cons rfl (fun K hK => ?_) AllReadyIn.nil)
        go_simp
        refine hK _ _ ?_
        clear hK K
        refine wpAnyIn_take (i := 4) (v := .int .i64 hs.length) rfl rfl (by kernel_rfl) (by kernel_rfl) (by kernel_rfl) (fun _ _ _ h => h) ⟨Or.inl ⟨by rfl, fun w => by go_simp⟩, fun _ => rfl⟩ ?_
        refine wpAnyIn_ready (rs := [5]) (by kernel_rfl) (by simp) (AllReadyIn.cons rfl (fun K hK => ?_) AllReadyIn.nil)
        go_simp
        refine CallsIn.mono (callsIn_wide.2 (hQ.out _)) ?_
        rintro e w' ⟨rfl, rfl⟩
        refine hK _ _ ?_
        clear hK K
        refine wpAnyIn_take (i := 6) (v := .int .i32 (wrap32 (u / (hs.length : Int)))) rfl rfl (by kernel_rfl) (by kernel_rfl) (by kernel_rfl) (fun _ _ _ h => h) ⟨Or.inl ⟨by rfl, fun w => by go_simp; exact wrap_i32_32 _⟩, fun _ => rfl⟩ ?_
        refine wpAnyIn_take (i := 7) (v := .pointer (some ⟨W.heap.size, k, none⟩)) rfl rfl (by kernel_rfl) (by kernel_rfl) (by kernel_rfl) (fun _ _ _ h => h) ⟨Or.inl ⟨by rfl, fun w => by go_simp⟩, fun _ => rfl⟩ ?_
        refine wpAnyIn_ready (rs := [8]) (by kernel_rfl) (by simp) (AllReadyIn.cons rfl (fun K hK => ?_) AllReadyIn.nil)
        go_simp
        refine hK _ _ ?_
        clear hK K
        exact wpAnyIn_done (by kernel_rfl) (hfin _) _
      · refine AllReadyIn.cons rfl (fun K hK => ?_) AllReadyIn.nil
        go_simp
        refine hK _ _ ?_
        clear hK K
        refine wpAnyIn_take (i := 4) (v := .int .i64 hs.length) rfl rfl (by kernel_rfl) (by kernel_rfl) (by kernel_rfl) (fun _ _ _ h => h) ⟨Or.inl ⟨by rfl, fun w => by go_simp⟩, fun _ => rfl⟩ ?_
        refine wpAnyIn_ready (rs := [0, 5]) (by kernel_rfl) (by simp) (AllReadyIn.cons rfl (fun K hK => ?_) ?_)
        · go_simp
          refine hK _ _ ?_
          clear hK K
          refine wpAnyIn_ready (rs := [5]) (by kernel_rfl) (by simp) (AllReadyIn.cons rfl (fun K hK => ?_) AllReadyIn.nil)
          go_simp
          refine CallsIn.mono (callsIn_wide.2 (hQ.out _)) ?_
          rintro e w' ⟨rfl, rfl⟩
          refine hK _ _ ?_
          clear hK K
          refine wpAnyIn_take (i := 6) (v := .int .i32 (wrap32 (u / (hs.length : Int)))) rfl rfl (by kernel_rfl) (by kernel_rfl) (by kernel_rfl) (fun _ _ _ h => h) ⟨Or.inl ⟨by rfl, fun w => by go_simp; exact wrap_i32_32 _⟩, fun _ => rfl⟩ ?_
          refine wpAnyIn_take (i := 7) (v := .pointer (some ⟨W.heap.size, k, none⟩)) rfl rfl (by kernel_rfl) (by kernel_rfl) (by kernel_rfl) (fun _ _ _ h => h) ⟨Or.inl ⟨by rfl, fun w => by go_simp⟩, fun _ => rfl⟩ ?_
          refine wpAnyIn_ready (rs := [8]) (by kernel_rfl) (by simp) (AllReadyIn.cons rfl (fun K hK => ?_) AllReadyIn.nil)
          go_simp
          refine hK _ _ ?_
          clear hK K
          exact wpAnyIn_done (by kernel_rfl) (hfin _) _
        · refine AllReadyIn.cons rfl (fun K hK => ?_) AllReadyIn.nil
          go_simp
          refine CallsIn.mono (callsIn_wide.2 (hQ.out _)) ?_
          rintro e w' ⟨rfl, rfl⟩
          refine hK _ _ ?_
          clear hK K
          refine wpAnyIn_take (i := 6) (v := .int .i32 (wrap32 (u / (hs.length : Int)))) rfl rfl (by kernel_rfl) (by kernel_rfl) (by kernel_rfl) (fun _ _ _ h => h) ⟨Or.inl ⟨by rfl, fun w => by go_simp; exact wrap_i32_32 _⟩, fun _ => rfl⟩ ?_
          refine wpAnyIn_ready (rs := [0]) (by kernel_rfl) (by simp) (AllReadyIn.cons rfl (fun K hK => ?_) AllReadyIn.nil)
          go_simp
          refine hK _ _ ?_
          clear hK K
          refine wpAnyIn_take (i := 7) (v := .pointer (some ⟨W.heap.size, k, none⟩)) rfl rfl (by kernel_rfl) (by kernel_rfl) (by kernel_rfl) (fun _ _ _ h => h) ⟨Or.inl ⟨by rfl, fun w => by go_simp⟩, fun _ => rfl⟩ ?_
          refine wpAnyIn_ready (rs := [8]) (by kernel_rfl) (by simp) (AllReadyIn.cons rfl (fun K hK => ?_) AllReadyIn.nil)
          go_simp
          refine hK _ _ ?_
          clear hK K
          exact wpAnyIn_done (by kernel_rfl) (hfin _) _
    case done3 =>
      rintro D2 pre3 W2 hDD hU3 ⟨⟨⟨hM2, hA2, hm2⟩, hB2⟩, hD2⟩ hK2
      rw [hML.out pre3 hU3] at hA2
      have hDl := (Array.getElem?_eq_some_iff.1 hD9).1
      have hSM := Lib.hid hM2
      obtain ⟨z1, z2, z3, z4, z5, z6⟩ := hM2
      have hne1 : (⟨w.heap.size + 1, 0, none⟩ : Addr) ≠ ⟨w.heap.size + 1 + 1, 0, none⟩ := fun h => by injection h with h; omega
      clear hS9 hA9 hM9 bs bm'
      gi_wp2
      have hKA : ∀ V1 V2, KeepsOthers W2 ((W2.setCell ⟨w.heap.size + 1, 0, none⟩ V1).setCell ⟨w.heap.size + 1 + 1, 0, none⟩ V2) := fun V1 V2 => (KeepsOthers.setCell _ _ _).trans (KeepsOthers.setCell _ _ _)
      have hK3 := (hKA (.slice (some ⟨W.heap.size, 0, none⟩) S.length S.length) (.int .i64 0)).same D2 _ hK2 rfl
      have hD3 := (hKA (.slice (some ⟨W.heap.size, 0, none⟩) S.length S.length) (.int .i64 0)).same D _ hD2 rfl
      have hc1 : ((W2.setCell ⟨w.heap.size + 1, 0, none⟩ (.slice (some ⟨W.heap.size, 0, none⟩) S.length S.length)).setCell ⟨w.heap.size + 1 + 1, 0, none⟩ (.int .i64 0)).cell? ⟨w.heap.size + 1, 0, none⟩ = some (.slice (some ⟨W.heap.size, 0, none⟩) S.length S.length) :=
        (World.cell?_setCell_other _ _ _ _ hne1.symm).trans (World.cell?_setCell_same' _ _ _ (by rw [z2]; rfl))
      have hc2 : ((W2.setCell ⟨w.heap.size + 1, 0, none⟩ (.slice (some ⟨W.heap.size, 0, none⟩) S.length S.length)).setCell ⟨w.heap.size + 1 + 1, 0, none⟩ (.int .i64 0)).cell? ⟨w.heap.size + 1 + 1, 0, none⟩ = some (.int .i64 0) :=
        World.cell?_setCell_same' _ _ _ (by rw [World.cell?_setCell_other _ _ _ _ hne1, z4]; rfl)
      have hA3 := (hA2.other (c := w.heap.size + 1) (by omega) 0 (.slice (some ⟨W.heap.size, 0, none⟩) S.length S.length)).other (c := w.heap.size + 1 + 1) (by omega) 0 (.int .i64 0)
      have hB3 := (hB2.setCell (p := ⟨w.heap.size + 1, 0, none⟩) (by show _ ≤ w.heap.size + 1; omega) (.slice (some ⟨W.heap.size, 0, none⟩) S.length S.length)).setCell (p := ⟨w.heap.size + 1 + 1, 0, none⟩) (by show _ ≤ w.heap.size + 1 + 1; omega) (.int .i64 0)
      obtain ⟨W3, hW3⟩ : ∃ W3, (W2.setCell ⟨w.heap.size + 1, 0, none⟩ (.slice (some ⟨W.heap.size, 0, none⟩) S.length S.length)).setCell ⟨w.heap.size + 1 + 1, 0, none⟩ (.int .i64 0) = W3 := ⟨_, rfl⟩
      rw [hW3] at hK3 hD3 hc1 hc2 hA3 hB3 ⊢
      have hD4 : (W3.putObj D2 (.deferred none)).heap[D]? = some (.deferred (some [])) := (World.putObj_heap_other (by omega)).trans hD3
      have kept1 : ∀ {p : Addr} {v : Value}, W3.cell? p = some v → ((W3.putObj D2 (.deferred none)).putObj D (.deferred none)).cell? p = some v := fun h =>
        cell_kept (cell_kept h (grownBy_putObj' _ D2 (.deferred none)) (fun r e => by cases e; exact ⟨_, hK3, rfl⟩)) (grownBy_putObj' _ D (.deferred none)) (fun r e => by cases e; exact ⟨_, hD4, rfl⟩)
      have hA5 := (hA3.kept (grownBy_putObj' _ D2 (.deferred none)) (fun r e => by cases e; exact ⟨_, hK3, rfl⟩)).kept (grownBy_putObj' _ D (.deferred none)) (fun r e => by cases e; exact ⟨_, hD4, rfl⟩)
      have hB5 := (hB3.trans (belowK_b (w := w) (Nat.le_refl _) W3 D2 _ (.deferred none) (by omega) hK3 rfl rfl)).trans (belowK_b (w := w) (Nat.le_refl _) _ D _ (.deferred none) (by omega) hD4 rfl rfl)
      have hc5 := kept1 hc1
      have hc6 := kept1 hc2
      have hWsz : W.heap.size < ((W3.putObj D2 (.deferred none)).putObj D (.deferred none)).heap.size := by
        have h1 := (Array.getElem?_eq_some_iff.1 hK3).1
        have h2 := (grownBy_putObj' W3 D2 (.deferred none)).size
        have h3 := (grownBy_putObj' (W3.putObj D2 (.deferred none)) D (.deferred none)).size
        omega
      refine ⟨by simp, .inl ⟨_, _, rfl, run_takeDeferred hK3, by simp, .inl ⟨_, _, rfl, run_takeDeferred hD4, ?_⟩⟩⟩
      have hhl := rows_head hne
      rw [HN.out] at hhl
      refine ⟨.tuple #[.slice (some ⟨W.heap.size, 0, none⟩) S.length S.length, .int .i64 0], ?_, hB5, .inr ⟨hAl.out, some ⟨W.heap.size, 0, none⟩, S.length, by rw [hhl], ?_⟩⟩
      · simp [results, Try.f8, go_sem, hc5, hc6]
      · rw [hhl]
        exact ⟨hA5.rd hWsz, by rw [meanL_length]; omega, meanL_all _ _⟩
    case stop3 =>
      rintro D2 c2 pre3 W2 _ _ h _
      exact h.elim
  case stop =>
    rintro D c pre W hD _ ⟨⟨rfl, hx, h1, h2⟩, hB⟩ hK
    have hNA : Hid (¬ Alike (rowsOf hs)) := by obtain ⟨x, hx⟩ := hx.out; exact rows_not hne HN.out x hx
    gi_wp2
    refine ⟨by simp, .inl ⟨_, _, rfl, run_takeDeferred hK, ?_⟩⟩
    have hc5 := cell_kept h1 (grownBy_putObj' _ D (.deferred none)) (fun r e => by cases e; exact ⟨_, hK, rfl⟩)
    have hc6 := cell_kept h2 (grownBy_putObj' _ D (.deferred none)) (fun r e => by cases e; exact ⟨_, hK, rfl⟩)
    refine ⟨.tuple #[.slice none 0 0, .int .i64 7], ?_, hB.trans (belowK_b (w := w) (Nat.le_refl _) _ D _ _ (by have := hB0.size; omega) hK rfl rfl), .inl ⟨hNA.out, rfl⟩⟩
    simp [results, Try.f8, go_sem, hc5, hc6]

/-- Mean, whatever comes: where the first vector is not too long. -/
theorem Mean_any (A : Option Addr) (hs : List Hdr) (c : Nat) (w : World) (hR : Rd hdrV w w.heap.size A hs) (hl : hs.length ≤ 9223372036854775807) (hv : ∀ h ∈ hs, Vec w h.1 h.2.1) (hn' : (hdrAt hs 0).2.1.length ≤ 1000000) :
    Calls Try.prog 8 #[.slice A hs.length c] w (MeanOut (rowsOf hs) w) := by
  by_cases hne : 0 < hs.length
  · exact callsIn_wide.1 (Mean_some A hs c _ w hR hl hv hne rfl hn')
  · obtain rfl : hs = [] := by cases hs with | nil => rfl | cons x r => simp at hne
    clear hR hv hn' hne hl
    go_enter Try.func8, Try.ntmps8
    go_wp2
    refine bodyPost_ret (v := .tuple #[.slice none 0 0, .int .i64 7]) ?_ rfl ?_
    · simp [results, Try.f8, go_sem]
    · exact ⟨(((Below.refl _ w).alloc (Nat.le_refl _) _).alloc (by simp) _).alloc (by simp; omega) _, .inl ⟨fun h => h.1 rfl, rfl⟩⟩

end Go.Proofs.Ytnfcmkmjahplpaa
