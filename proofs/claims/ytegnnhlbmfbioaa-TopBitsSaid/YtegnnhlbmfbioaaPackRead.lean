/- The contracts of package pack, third part: what words are of. -/
import Derived.Test.YtegnnhlbmfbioaaPackNames
namespace Go.Proofs.Ytegnnhlbmfbioaa
open Go.RowKit

theorem fldL_two (x : Int) (m : Nat) (hm0 : 1 ≤ m) (hm : m ≤ 51) : fldL x [13, (m : Int)] = [x % 8192, x / 8192 % 2 ^ m] := by
  have hc : cw 64 [13, (m : Int)] = 0 := by
    simp only [cw]
    rw [if_neg (by omega), if_neg (by omega)]
  unfold fldL
  rw [if_pos hc]
  simp only [fieldsL, Int.toNat_natCast]
  rfl

theorem cw_two (m : Nat) (hm0 : 1 ≤ m) (hm : m ≤ 51) : cw 64 [13, (m : Int)] = 0 := by
  simp only [cw]
  rw [if_neg (by omega), if_neg (by omega)]

/-- Two parts come back in new memory. -/
def TwoOut (p q : Int) (w : World) (e : Ending) (w' : World) : Prop :=
  ∃ g off c, e = .returned (.tuple #[.slice (some ⟨g, off, none⟩) 2 c, .int .i64 0]) ∧ g < w'.heap.size ∧ w'.cell? ⟨g, off, none⟩ = some (.int .u64 p) ∧
    w'.cell? ⟨g, off + 1, none⟩ = some (.int .u64 q) ∧ Below w.heap.size w w'

theorem Fields_two (x : Int) (b m c : Nat) (w : World) (hm0 : 1 ≤ m) (hm : m ≤ 51) (h0 : 0 ≤ x) (h1 : x ≤ 18446744073709551615) (hb : b < w.heap.size)
    (c0 : w.cell? ⟨b, 0, none⟩ = some (.int .i64 13)) (c1 : w.cell? ⟨b, 1, none⟩ = some (.int .i64 m)) :
    Calls Try.prog 9 #[.int .u64 x, .slice (some ⟨b, 0, none⟩) 2 c] w (TwoOut (x % 8192) (x / 8192 % 2 ^ m) w) := by
  have h := Fields_any x (some ⟨b, 0, none⟩) [13, (m : Int)] c w h0 h1 (Rd.two hb c0 c1) (by simp)
  refine h.mono ?_
  rintro e w' ⟨A, d, he, hr, hbel⟩
  rw [fldL_two x m hm0 hm, cw_two m hm0 hm] at he
  rw [fldL_two x m hm0 hm] at hr
  obtain ⟨g, off, rfl, hg, hc0⟩ := hr 0 _ rfl
  obtain ⟨g', off', he', _, hc1⟩ := hr 1 _ rfl
  injection he' with he'
  injection he' with h3 h4
  subst h3
  subst h4
  exact ⟨g, off, d, he, hg, hc0, hc1, hbel⟩

/-- What a word is of: a ref, places of a ring, an entry; and the error. -/
def refD (x : Int) : Int × Int × Int := if 4096 < x % 8192 ∨ 1099511627775 < x / 8192 then (0, 0, 6) else (x % 8192, x / 8192, 0)
def ringD (x : Int) : Int × Int × Int := if 4097 < x % 8192 ∨ 4097 < x / 8192 then (0, 0, 6) else (x % 8192 - 1, x / 8192 - 1, 0)
def entD (x : Int) : Int × Int × Int := if 4096 < x % 8192 ∨ 7 < x / 8192 then (0, 0, 6) else (x % 8192, x / 8192, 0)

def RefOut (p : Int × Int × Int) (w : World) (e : Ending) (w' : World) : Prop :=
  e = .returned (.tuple #[.agg #[.int .i64 p.1, .int .i64 p.2.1], .int .i64 p.2.2]) ∧ Below w.heap.size w w'
def ThreeOut (p : Int × Int × Int) (w : World) (e : Ending) (w' : World) : Prop :=
  e = .returned (.tuple #[.int .i64 p.1, .int .i64 p.2.1, .int .i64 p.2.2]) ∧ Below w.heap.size w w'

/-- The three ways of a word that is read: no parts that may be; parts of another word; its own parts. -/
def Ways (s : Int × Int) (d : Int × Int × Int) (x p q : Int) : Prop :=
  (s = (0, 6) ∧ d = (0, 0, 6)) ∨ (∃ v, s = (v, 0) ∧ v ≠ x ∧ d = (0, 0, 6)) ∨ (s = (x, 0) ∧ d = (p, q, 0))

theorem ent_ways (x : Int) (h0 : 0 ≤ x) : Ways (entS (x % 8192) (x / 8192 % 2 ^ 3)) (entD x) x (x % 8192) (x / 8192 % 2 ^ 3) := by
  unfold Ways entS entD
  rw [show (2 : Int) ^ 3 = 8 from rfl]
  by_cases h2 : x % 8192 < 0 ∨ 4096 < x % 8192 ∨ x / 8192 % 8 < 0 ∨ 7 < x / 8192 % 8
  · exact .inl ⟨if_pos h2, if_pos (by omega)⟩
  · by_cases h : 4096 < x % 8192 ∨ 7 < x / 8192
    · exact .inr (.inl ⟨_, if_neg h2, by omega, if_pos h⟩)
    · have e1 : x % 8192 + x / 8192 % 8 * 8192 = x := by omega
      have e2 : x / 8192 % 8 = x / 8192 := by omega
      exact .inr (.inr ⟨by rw [if_neg h2, e1], by rw [if_neg h, e2]⟩)

theorem ring_ways (x : Int) (h0 : 0 ≤ x) : Ways (ringS (x % 8192 - 1) (x / 8192 % 2 ^ 13 - 1)) (ringD x) x (x % 8192 - 1) (x / 8192 % 2 ^ 13 - 1) := by
  unfold Ways ringS ringD
  rw [show (2 : Int) ^ 13 = 8192 from rfl]
  by_cases h2 : x % 8192 - 1 < -1 ∨ 4096 < x % 8192 - 1 ∨ x / 8192 % 8192 - 1 < -1 ∨ 4096 < x / 8192 % 8192 - 1
  · exact .inl ⟨if_pos h2, if_pos (by omega)⟩
  · by_cases h : 4097 < x % 8192 ∨ 4097 < x / 8192
    · exact .inr (.inl ⟨_, if_neg h2, by omega, if_pos h⟩)
    · have e1 : x % 8192 - 1 + 1 + (x / 8192 % 8192 - 1 + 1) * 8192 = x := by omega
      have e2 : x / 8192 % 8192 = x / 8192 := by omega
      exact .inr (.inr ⟨by rw [if_neg h2, e1], by rw [if_neg h, e2]⟩)

theorem ref_ways (x : Int) (h0 : 0 ≤ x) : Ways (refS (x % 8192) (x / 8192 % 2 ^ 40)) (refD x) x (x % 8192) (x / 8192 % 2 ^ 40) := by
  unfold Ways refS refD
  rw [show (2 : Int) ^ 40 = 1099511627776 from by decide]
  by_cases h2 : x % 8192 < 0 ∨ 4096 < x % 8192 ∨ x / 8192 % 1099511627776 < 0 ∨ 1099511627775 < x / 8192 % 1099511627776
  · exact .inl ⟨if_pos h2, if_pos (by omega)⟩
  · by_cases h : 4096 < x % 8192 ∨ 1099511627775 < x / 8192
    · exact .inr (.inl ⟨_, if_neg h2, by omega, if_pos h⟩)
    · have e1 : x % 8192 + x / 8192 % 1099511627776 * 8192 = x := by omega
      have e2 : x / 8192 % 1099511627776 = x / 8192 := by omega
      exact .inr (.inr ⟨by rw [if_neg h2, e1], by rw [if_neg h, e2]⟩)

set_option maxHeartbeats 1000000 in
theorem Entry_any (x : Int) (w : World) (h0 : 0 ≤ x) (h1 : x ≤ 18446744073709551615) :
    Calls Try.prog 28 #[.int .u64 x] w (ThreeOut (entD x) w) := by
  have hp : 0 ≤ x % 8192 ∧ x % 8192 ≤ 8191 := by omega
  have hq : 0 ≤ x / 8192 % 2 ^ 3 ∧ x / 8192 % 2 ^ 3 ≤ 7 := by rw [show (2 : Int) ^ 3 = 8 from rfl]; omega
  have hw := ent_ways x h0
  have hF := fun (b c : Nat) (w : World) hb c0 c1 => Fields_two x b 3 c w (by omega) (by omega) h0 h1 hb c0 c1
  generalize x % 8192 = p at *
  generalize x / 8192 % 2 ^ 3 = q at *
  obtain ⟨hp0, hp1⟩ := hp
  obtain ⟨hq0, hq1⟩ := hq
  have HF := Lib.hid hF
  clear hF
  rcases hw with ⟨hs, hd⟩ | ⟨v, hs, hne, hd⟩ | ⟨hs, hd⟩
  · have HS := Lib.hid hs
    have HD := Lib.hid hd
    clear hs hd
    go_enter Try.func28, Try.ntmps28
    go_wp2_with fail
    refine Calls.mono (HF.out _ _ _ (by go_size) (by go_cell) (by go_cell)) ?_
    rintro e w1 ⟨g, off, d, rfl, hg, hc0, hc1, hbel⟩
    go_wp2
    go_quiet (fail)
    go_wp2_with fail
    refine (PutEntry_any p q _).mono ?_
    rintro e w2 ⟨rfl, hb2⟩
    rw [HS.out]
    go_wp2
    go_ret3
    exact ⟨by rw [HD.out]; rfl, Below.next (Below.next (Below.next (by go_grown) hbel) (below_draws _ _ _)) hb2⟩
  · have HS := Lib.hid hs
    have HD := Lib.hid hd
    have hb : ((v : Int) != x) = true := by rw [bne_iff_ne]; exact hne
    clear hs hd hne
    go_enter Try.func28, Try.ntmps28
    go_wp2_with fail
    refine Calls.mono (HF.out _ _ _ (by go_size) (by go_cell) (by go_cell)) ?_
    rintro e w1 ⟨g, off, d, rfl, hg, hc0, hc1, hbel⟩
    go_wp2
    go_quiet (fail)
    go_wp2_with fail
    refine (PutEntry_any p q _).mono ?_
    rintro e w2 ⟨rfl, hb2⟩
    rw [HS.out]
    go_wp2
    go_ret3
    exact ⟨by rw [HD.out]; rfl, Below.next (Below.next (Below.next (by go_grown) hbel) (below_draws _ _ _)) hb2⟩
  · have HS := Lib.hid hs
    have HD := Lib.hid hd
    clear hs hd
    go_enter Try.func28, Try.ntmps28
    go_wp2_with fail
    refine Calls.mono (HF.out _ _ _ (by go_size) (by go_cell) (by go_cell)) ?_
    rintro e w1 ⟨g, off, d, rfl, hg, hc0, hc1, hbel⟩
    go_wp2
    go_quiet (fail)
    go_wp2_with fail
    refine (PutEntry_any p q _).mono ?_
    rintro e w2 ⟨rfl, hb2⟩
    rw [HS.out]
    go_wp2
    go_ret3
    exact ⟨by rw [HD.out]; rfl, Below.next (Below.next (Below.next (by go_grown) hbel) (below_draws _ _ _)) hb2⟩

set_option maxHeartbeats 1000000 in
theorem Ring_any (x : Int) (w : World) (h0 : 0 ≤ x) (h1 : x ≤ 18446744073709551615) :
    Calls Try.prog 26 #[.int .u64 x] w (ThreeOut (ringD x) w) := by
  have hp : 0 ≤ x % 8192 ∧ x % 8192 ≤ 8191 := by omega
  have hq : 0 ≤ x / 8192 % 2 ^ 13 ∧ x / 8192 % 2 ^ 13 ≤ 8191 := by rw [show (2 : Int) ^ 13 = 8192 from rfl]; omega
  have hw := ring_ways x h0
  have hF := fun (b c : Nat) (w : World) hb c0 c1 => Fields_two x b 13 c w (by omega) (by omega) h0 h1 hb c0 c1
  generalize x % 8192 = p at *
  generalize x / 8192 % 2 ^ 13 = q at *
  obtain ⟨hp0, hp1⟩ := hp
  obtain ⟨hq0, hq1⟩ := hq
  have HF := Lib.hid hF
  clear hF
  rcases hw with ⟨hs, hd⟩ | ⟨v, hs, hne, hd⟩ | ⟨hs, hd⟩
  · have HS := Lib.hid hs
    have HD := Lib.hid hd
    clear hs hd
    go_enter Try.func26, Try.ntmps26
    go_wp2_with fail
    refine Calls.mono (HF.out _ _ _ (by go_size) (by go_cell) (by go_cell)) ?_
    rintro e w1 ⟨g, off, d, rfl, hg, hc0, hc1, hbel⟩
    go_wp2
    go_quiet (fail)
    go_wp2_with fail
    refine (PutRing_any (p - 1) (q - 1) _).mono ?_
    rintro e w2 ⟨rfl, hb2⟩
    rw [HS.out]
    go_wp2
    go_ret3
    exact ⟨by rw [HD.out]; rfl, Below.next (Below.next (Below.next (by go_grown) hbel) (below_draws _ _ _)) hb2⟩
  · have HS := Lib.hid hs
    have HD := Lib.hid hd
    have hb : ((v : Int) != x) = true := by rw [bne_iff_ne]; exact hne
    clear hs hd hne
    go_enter Try.func26, Try.ntmps26
    go_wp2_with fail
    refine Calls.mono (HF.out _ _ _ (by go_size) (by go_cell) (by go_cell)) ?_
    rintro e w1 ⟨g, off, d, rfl, hg, hc0, hc1, hbel⟩
    go_wp2
    go_quiet (fail)
    go_wp2_with fail
    refine (PutRing_any (p - 1) (q - 1) _).mono ?_
    rintro e w2 ⟨rfl, hb2⟩
    rw [HS.out]
    go_wp2
    go_ret3
    exact ⟨by rw [HD.out]; rfl, Below.next (Below.next (Below.next (by go_grown) hbel) (below_draws _ _ _)) hb2⟩
  · have HS := Lib.hid hs
    have HD := Lib.hid hd
    clear hs hd
    go_enter Try.func26, Try.ntmps26
    go_wp2_with fail
    refine Calls.mono (HF.out _ _ _ (by go_size) (by go_cell) (by go_cell)) ?_
    rintro e w1 ⟨g, off, d, rfl, hg, hc0, hc1, hbel⟩
    go_wp2
    go_quiet (fail)
    go_wp2_with fail
    refine (PutRing_any (p - 1) (q - 1) _).mono ?_
    rintro e w2 ⟨rfl, hb2⟩
    rw [HS.out]
    go_wp2
    go_ret3
    exact ⟨by rw [HD.out]; rfl, Below.next (Below.next (Below.next (by go_grown) hbel) (below_draws _ _ _)) hb2⟩

/-- A box that was made ahead of two calls, and one between them, stand as they were. -/
theorem kept {w0 w1 w2 : World} {b : Nat} {u0 u1 v0 v1 : Value} {T : TypeId} (hbel : Below w0.heap.size w0 w1)
    (hb2 : Below (w1.alloc (.cells #[v0, v1] T)).drew.heap.size (w1.alloc (.cells #[v0, v1] T)).drew w2)
    (h0 : w0.cell? ⟨b, 0, none⟩ = some u0) (h1 : w0.cell? ⟨b, 1, none⟩ = some u1) (h2 : w0.frozen? ⟨b, 0, none⟩ = false) (h3 : w0.frozen? ⟨b, 1, none⟩ = false) :
    w2.cell? ⟨b, 0, none⟩ = some u0 ∧ w2.cell? ⟨b, 1, none⟩ = some u1 ∧ w2.frozen? ⟨b, 0, none⟩ = false ∧ w2.frozen? ⟨b, 1, none⟩ = false ∧
      w2.cell? ⟨w1.heap.size, 0, none⟩ = some v0 ∧ w2.cell? ⟨w1.heap.size, 1, none⟩ = some v1 ∧ Below w0.heap.size w0 w2 := by
  have hlt : b < w0.heap.size := World.block_lt_of_cell? w0 _ h0
  have hlt1 : b < w1.heap.size := Nat.lt_of_lt_of_le hlt hbel.size
  have hs : (w1.alloc (.cells #[v0, v1] T)).drew.heap.size = w1.heap.size + 1 := by simp
  have hc : ∀ o, w2.cell? ⟨b, o, none⟩ = w0.cell? ⟨b, o, none⟩ := fun o =>
    (hb2.cell (p := ⟨b, o, none⟩) (by rw [hs]; show b < _; omega)).trans ((World.cell?_alloc_lt w1 _ ⟨b, o, none⟩ hlt1).trans (hbel.cell (p := ⟨b, o, none⟩) hlt))
  have hf : ∀ o, w2.frozen? ⟨b, o, none⟩ = w0.frozen? ⟨b, o, none⟩ := fun o =>
    (hb2.frozen (p := ⟨b, o, none⟩) (by rw [hs]; show b < _; omega)).trans ((frozen?_alloc_cells w1 _ _ ⟨b, o, none⟩).trans (hbel.frozen (p := ⟨b, o, none⟩) hlt))
  have hn : ∀ o, w2.cell? ⟨w1.heap.size, o, none⟩ = (w1.alloc (.cells #[v0, v1] T)).cell? ⟨w1.heap.size, o, none⟩ := fun o => hb2.cell (p := ⟨w1.heap.size, o, none⟩) (by rw [hs]; show w1.heap.size < _; omega)
  exact ⟨(hc 0).trans h0, (hc 1).trans h1, (hf 0).trans h2, (hf 1).trans h3, (hn 0).trans (by go_simp), (hn 1).trans (by go_simp), Below.next hbel (((Below.refl _ w1).alloc (Nat.le_refl _) _).drew.trans (hb2.mono (by rw [hs]; omega)))⟩

set_option maxHeartbeats 1000000 in
theorem Ref_any (x : Int) (w : World) (h0 : 0 ≤ x) (h1 : x ≤ 18446744073709551615) :
    Calls Try.prog 24 #[.int .u64 x] w (RefOut (refD x) w) := by
  have hp : 0 ≤ x % 8192 ∧ x % 8192 ≤ 8191 := by omega
  have hq : 0 ≤ x / 8192 % 2 ^ 40 ∧ x / 8192 % 2 ^ 40 ≤ 1099511627775 := by rw [show (2 : Int) ^ 40 = 1099511627776 from by decide]; omega
  have hw := ref_ways x h0
  have hF := fun (b c : Nat) (w : World) hb c0 c1 => Fields_two x b 40 c w (by omega) (by omega) h0 h1 hb c0 c1
  generalize x % 8192 = p at *
  generalize x / 8192 % 2 ^ 40 = q at *
  obtain ⟨hp0, hp1⟩ := hp
  obtain ⟨hq0, hq1⟩ := hq
  have HF := Lib.hid hF
  clear hF
  rcases hw with ⟨hs, hd⟩ | ⟨v, hs, hne, hd⟩ | ⟨hs, hd⟩
  · have HS := Lib.hid hs
    have HD := Lib.hid hd
    clear hs hd
    go_enter Try.func24, Try.ntmps24
    go_wp2_with fail
    refine Calls.mono (HF.out _ _ _ (by go_size) (by go_cell) (by go_cell)) ?_
    rintro e w1 ⟨g, off, d, rfl, hg, hc0, hc1, hbel⟩
    go_wp2
    go_region
    go_wp2_with fail
    refine (PutRef_any p q _ (by omega) (by omega)).mono ?_
    rintro e w2 ⟨rfl, hb2⟩
    rw [HS.out]
    have hsz : w.heap.size + 2 ≤ w1.heap.size := by have := hbel.size; simpa using this
    obtain ⟨z0, z1, f0, f1, r0, r1, hb3⟩ := kept (b := w.heap.size) (u0 := .int .i64 0) (u1 := .int .i64 0) hbel hb2 (by go_cell) (by go_cell) (by go_simp) (by go_simp)
    have hbb : Below w.heap.size w w2 := Below.next (by go_grown) hb3
    clear hb2 hbel hc0 hc1 hb3
    go_wp2
    have k0 : ∀ u : Value, (w2.setCell ⟨w.heap.size, 0, none⟩ u).cell? ⟨w.heap.size, 0, none⟩ = some u := fun u => World.cell?_setCell_same _ _ _ z0
    have k1 : ∀ u u' : Value, ((w2.setCell ⟨w.heap.size, 0, none⟩ u).setCell ⟨w.heap.size, 1, none⟩ u').cell? ⟨w.heap.size, 1, none⟩ = some u' := fun u u' => World.cell?_setCell_same _ _ _ ((World.cell?_setCell_other _ _ _ _ (by simp)).trans z1)
    refine bodyPost_ret (v := .tuple #[.agg #[.int .i64 0, .int .i64 0], .int .i64 6]) (by simp [results, Try.results24, go_sem, k0, k1]) rfl ⟨by rw [HD.out], ?_⟩
    exact (hbb.setCell (Nat.le_refl _) _).setCell (Nat.le_refl _) _
  · have HS := Lib.hid hs
    have HD := Lib.hid hd
    have hb : ((v : Int) != x) = true := by rw [bne_iff_ne]; exact hne
    clear hs hd hne
    go_enter Try.func24, Try.ntmps24
    go_wp2_with fail
    refine Calls.mono (HF.out _ _ _ (by go_size) (by go_cell) (by go_cell)) ?_
    rintro e w1 ⟨g, off, d, rfl, hg, hc0, hc1, hbel⟩
    go_wp2
    go_region
    go_wp2_with fail
    refine (PutRef_any p q _ (by omega) (by omega)).mono ?_
    rintro e w2 ⟨rfl, hb2⟩
    rw [HS.out]
    have hsz : w.heap.size + 2 ≤ w1.heap.size := by have := hbel.size; simpa using this
    obtain ⟨z0, z1, f0, f1, r0, r1, hb3⟩ := kept (b := w.heap.size) (u0 := .int .i64 0) (u1 := .int .i64 0) hbel hb2 (by go_cell) (by go_cell) (by go_simp) (by go_simp)
    have hbb : Below w.heap.size w w2 := Below.next (by go_grown) hb3
    clear hb2 hbel hc0 hc1 hb3
    go_wp2
    have k0 : ∀ u : Value, (w2.setCell ⟨w.heap.size, 0, none⟩ u).cell? ⟨w.heap.size, 0, none⟩ = some u := fun u => World.cell?_setCell_same _ _ _ z0
    have k1 : ∀ u u' : Value, ((w2.setCell ⟨w.heap.size, 0, none⟩ u).setCell ⟨w.heap.size, 1, none⟩ u').cell? ⟨w.heap.size, 1, none⟩ = some u' := fun u u' => World.cell?_setCell_same _ _ _ ((World.cell?_setCell_other _ _ _ _ (by simp)).trans z1)
    refine bodyPost_ret (v := .tuple #[.agg #[.int .i64 0, .int .i64 0], .int .i64 6]) (by simp [results, Try.results24, go_sem, k0, k1]) rfl ⟨by rw [HD.out], ?_⟩
    exact (hbb.setCell (Nat.le_refl _) _).setCell (Nat.le_refl _) _
  · have HS := Lib.hid hs
    have HD := Lib.hid hd
    clear hs hd
    go_enter Try.func24, Try.ntmps24
    go_wp2_with fail
    refine Calls.mono (HF.out _ _ _ (by go_size) (by go_cell) (by go_cell)) ?_
    rintro e w1 ⟨g, off, d, rfl, hg, hc0, hc1, hbel⟩
    go_wp2
    go_region
    go_wp2_with fail
    refine (PutRef_any p q _ (by omega) (by omega)).mono ?_
    rintro e w2 ⟨rfl, hb2⟩
    rw [HS.out]
    have hsz : w.heap.size + 2 ≤ w1.heap.size := by have := hbel.size; simpa using this
    obtain ⟨z0, z1, f0, f1, r0, r1, hb3⟩ := kept (b := w.heap.size) (u0 := .int .i64 0) (u1 := .int .i64 0) hbel hb2 (by go_cell) (by go_cell) (by go_simp) (by go_simp)
    have hbb : Below w.heap.size w w2 := Below.next (by go_grown) hb3
    clear hb2 hbel hc0 hc1 hb3
    go_wp2
    have k0 : ∀ u : Value, (w2.setCell ⟨w.heap.size, 0, none⟩ u).cell? ⟨w.heap.size, 0, none⟩ = some u := fun u => World.cell?_setCell_same _ _ _ z0
    have k1 : ∀ u u' : Value, ((w2.setCell ⟨w.heap.size, 0, none⟩ u).setCell ⟨w.heap.size, 1, none⟩ u').cell? ⟨w.heap.size, 1, none⟩ = some u' := fun u u' => World.cell?_setCell_same _ _ _ ((World.cell?_setCell_other _ _ _ _ (by simp)).trans z1)
    refine bodyPost_ret (v := .tuple #[.agg #[.int .i64 p, .int .i64 q], .int .i64 0]) (by simp [results, Try.results24, go_sem, k0, k1]) rfl ⟨by rw [HD.out], ?_⟩
    exact (hbb.setCell (Nat.le_refl _) _).setCell (Nat.le_refl _) _

end Go.Proofs.Ytegnnhlbmfbioaa
