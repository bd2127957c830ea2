/- The stage's theorem TopPlaces: its walk. -/
import Derived.Test.YtegnnhlbmfbioaaPackLives
import Derived.Test.YtegnnhlbmfbioaaBackPlain
import Derived.Test.YtegnnhlbmfbioaaBitOf
namespace Go.Proofs.Ytegnnhlbmfbioaa
open Go.RowKit

theorem Rd.one {α : Type} {f : α → Value} {w : World} {B b : Nat} {x : α} (hb : b < B) (h0 : w.cell? ⟨b, 0, none⟩ = some (f x)) : Rd f w B (some ⟨b, 0, none⟩) [x] := by
  intro k z hz
  match k, hz with
  | 0, hz => simp at hz; subst hz; exact ⟨b, 0, rfl, hb, h0⟩

theorem Rd.three {α : Type} {f : α → Value} {w : World} {B b : Nat} {x y z : α} (hb : b < B) (h0 : w.cell? ⟨b, 0, none⟩ = some (f x)) (h1 : w.cell? ⟨b, 1, none⟩ = some (f y)) (h2 : w.cell? ⟨b, 2, none⟩ = some (f z)) :
    Rd f w B (some ⟨b, 0, none⟩) [x, y, z] := by
  intro k u hu
  match k, hu with
  | 0, hu => simp at hu; subst hu; exact ⟨b, 0, rfl, hb, h0⟩
  | 1, hu => simp at hu; subst hu; exact ⟨b, 0, rfl, hb, h1⟩
  | 2, hu => simp at hu; subst hu; exact ⟨b, 0, rfl, hb, h2⟩

/-- Three parts come back in new memory. -/
def TripleOut (p q r : Int) (w : World) (e : Ending) (w' : World) : Prop :=
  ∃ g off c, e = .returned (.tuple #[.slice (some ⟨g, off, none⟩) 3 c, .int .i64 0]) ∧ w'.cell? ⟨g, off, none⟩ = some (.int .u64 p) ∧
    w'.cell? ⟨g, off + 1, none⟩ = some (.int .u64 q) ∧ w'.cell? ⟨g, off + 2, none⟩ = some (.int .u64 r) ∧ Below w.heap.size w w'

theorem Fields_three (x m1 m2 m3 p q r : Int) (b c : Nat) (w : World) (h0 : 0 ≤ x) (h1 : x ≤ 18446744073709551615) (hx : fldL x [m1, m2, m3] = [p, q, r]) (hy : cw 64 [m1, m2, m3] = 0) (hb : b < w.heap.size)
    (c0 : w.cell? ⟨b, 0, none⟩ = some (.int .i64 m1)) (c1 : w.cell? ⟨b, 1, none⟩ = some (.int .i64 m2)) (c2 : w.cell? ⟨b, 2, none⟩ = some (.int .i64 m3)) :
    Calls Try.prog 9 #[.int .u64 x, .slice (some ⟨b, 0, none⟩) 3 c] w (TripleOut p q r w) := by
  have h := Fields_any x (some ⟨b, 0, none⟩) [m1, m2, m3] c w h0 h1 (Rd.three hb c0 c1 c2) (by simp)
  refine h.mono ?_
  rintro e w' ⟨A, d, he, hr, hbel⟩
  rw [hx, hy] at he
  rw [hx] at hr
  obtain ⟨g, off, rfl, _, hc0⟩ := hr 0 _ rfl
  obtain ⟨g1, off1, he1, _, hc1⟩ := hr 1 _ rfl
  obtain ⟨g2, off2, he2, _, hc2⟩ := hr 2 _ rfl
  injection he1 with he1
  injection he1 with h3 h4
  injection he2 with he2
  injection he2 with h5 h6
  subst h3 h4 h5 h6
  exact ⟨g, off, d, he, hc0, hc1, hc2, hbel⟩

set_option maxHeartbeats 1000000 in
theorem begins_any (w : World) : Calls Try.prog 30 #[] w fun e w' => e = .returned (.bool true) ∧ Below w.heap.size w w' := by
  go_enter Try.func30, Try.ntmps30
  go_wp2_with fail
  refine Calls.mono (Fields_at 6 1 2 [0, 3] 2 0 _ _ _ (by omega) (by omega) (by decide) (by decide) (by decide) (by go_size) (by go_cell) (by go_cell)) ?_
  rintro e w1 ⟨A1, d1, rfl, hr1, hb⟩
  have hB1 : Below w.heap.size w w1 := Below.next (by go_grown) hb
  obtain ⟨g, off, rfl, _, hc1⟩ := hr1 1 3 rfl
  clear hb hr1
  go_wp2_with fail
  refine Calls.mono (Of_any _ [3] _ _ (Rd.one (by go_size) (by go_cell)) (by simp)) ?_
  rintro e w2 ⟨A2, d2, rfl, hr2, _, _, hb⟩
  have hB2 : Below w.heap.size w w2 := Below.next hB1 (Below.next (by go_grown) hb)
  rw [show ofL [3] = [8] from by decide] at hr2 ⊢
  clear hb hB1
  go_wp2_with fail
  refine Calls.mono (Has_any _ [8] _ 3 _ hr2 (by intro z hz; simp at hz; subst hz; decide)) ?_
  rintro e w3 ⟨rfl, rfl⟩
  rw [show hasB [8] 3 = true from by decide]
  go_wp2
  go_ret
  exact ⟨rfl, hB2⟩

theorem ref_parts (s g v : Int) (h : refS s g = (v, 0)) : 0 ≤ s ∧ s ≤ 4096 ∧ 0 ≤ g ∧ g ≤ 1099511627775 ∧ 0 ≤ v ∧ v ≤ 18446744073709551615 ∧ fldL v [13, 40, 11] = [s, g, 0] := by
  unfold refS at h
  split at h
  · have := congrArg Prod.snd h
    simp at this
  · have hv : s + g * 8192 = v := congrArg Prod.fst h
    refine ⟨by omega, by omega, by omega, by omega, by omega, by omega, ?_⟩
    have e : fldL v [13, 40, 11] = [v % 8192, v / 8192 % 1099511627776, v / 8192 / 1099511627776 % 2048] := rfl
    rw [e, show v % 8192 = s from by omega, show v / 8192 = g from by omega, show g % 1099511627776 = g from by omega, show g / 1099511627776 = 0 from by omega]
    rfl

theorem ringS_cases (n p : Int) : ringS n p = (0, 6) ∨ ∃ v, ringS n p = (v, 0) := by
  unfold ringS
  split
  · exact .inl rfl
  · exact .inr ⟨_, rfl⟩

theorem ring_parts (n p v : Int) (h : ringS n p = (v, 0)) : -1 ≤ n ∧ n ≤ 4096 ∧ -1 ≤ p ∧ p ≤ 4096 ∧ 0 ≤ v ∧ v ≤ 18446744073709551615 ∧ fldL v [13, 13, 38] = [n + 1, p + 1, 0] ∧ ringD v = (n, p, 0) := by
  unfold ringS at h
  split at h
  · have := congrArg Prod.snd h
    simp at this
  · have hv : n + 1 + (p + 1) * 8192 = v := congrArg Prod.fst h
    refine ⟨by omega, by omega, by omega, by omega, by omega, by omega, ?_, ?_⟩
    · have e : fldL v [13, 13, 38] = [v % 8192, v / 8192 % 8192, v / 8192 / 8192 % 274877906944] := rfl
      rw [e, show v % 8192 = n + 1 from by omega, show v / 8192 = p + 1 from by omega, show (p + 1) % 8192 = p + 1 from by omega, show (p + 1) / 8192 = 0 from by omega]
      rfl
    · unfold ringD
      rw [if_neg (by omega), show v % 8192 - 1 = n from by omega, show v / 8192 - 1 = p from by omega]

theorem entS_cases (n p : Int) : entS n p = (0, 6) ∨ ∃ v, entS n p = (v, 0) := by
  unfold entS
  split
  · exact .inl rfl
  · exact .inr ⟨_, rfl⟩

theorem ent_parts (s l v : Int) (h : entS s l = (v, 0)) : 0 ≤ s ∧ s ≤ 4096 ∧ 0 ≤ l ∧ l ≤ 7 ∧ 0 ≤ v ∧ v ≤ 18446744073709551615 ∧ fldL v [13, 3, 48] = [s, l, 0] ∧ entD v = (s, l, 0) := by
  unfold entS at h
  split at h
  · have := congrArg Prod.snd h
    simp at this
  · have hv : s + l * 8192 = v := congrArg Prod.fst h
    refine ⟨by omega, by omega, by omega, by omega, by omega, by omega, ?_, ?_⟩
    · have e : fldL v [13, 3, 48] = [v % 8192, v / 8192 % 8, v / 8192 / 8 % 281474976710656] := rfl
      rw [e, show v % 8192 = s from by omega, show v / 8192 = l from by omega, show l % 8 = l from by omega, show l / 8 = 0 from by omega]
      rfl
    · unfold entD
      rw [if_neg (by omega), show v % 8192 = s from by omega, show v / 8192 = l from by omega]

set_option maxRecDepth 100000 in
set_option maxHeartbeats 4000000 in
theorem TopPlaces_walk (rs rg n p s l : Int) (w : World) (hrg0 : -9223372036854775808 ≤ rg) (hrg1 : rg ≤ 9223372036854775807) :
    Calls Try.prog 7 #[.agg #[.int .i64 rs, .int .i64 rg], .int .i64 n, .int .i64 p, .int .i64 s, .int .i64 l] w fun e w' =>
      e = .returned (.bool true) ∧ Below w.heap.size w w' := by
  go_enter Try.func7, Try.ntmps7
  go_wp2_with fail
  refine (begins_any _).mono ?_
  rintro e w1 ⟨rfl, hb⟩
  have hB1 : Below w.heap.size w w1 := Below.next (by go_grown) hb
  have x0 : w1.cell? ⟨w.heap.size, 0, none⟩ = some (.int .i64 rs) := (hb.cell (p := ⟨w.heap.size, 0, none⟩) (by go_size)).trans (by go_cell)
  have x1 : w1.cell? ⟨w.heap.size, 1, none⟩ = some (.int .i64 rg) := (hb.cell (p := ⟨w.heap.size, 1, none⟩) (by go_size)).trans (by go_cell)
  have xl : w.heap.size < w1.heap.size := by have := hb.size; simp at this; omega
  clear hb
  go_wp2_with fail
  refine (PutRef_any rs rg _ hrg0 hrg1).mono ?_
  rintro e w2 ⟨rfl, hb⟩
  have hB2 := Below.next hB1 hb
  have y0 := (hb.cell (p := ⟨w.heap.size, 0, none⟩) xl).trans x0
  have y1 := (hb.cell (p := ⟨w.heap.size, 1, none⟩) xl).trans x1
  have yl := Nat.lt_of_lt_of_le xl hb.size
  clear hb x0 x1 xl hB1
  rcases refS_cases rs rg with hr | ⟨v, hr⟩
  case' inl =>
    rw [hr]
    have HR := Lib.hid hr
    have hBz := hB2
    clear hr y0 y1 yl hB2
  case' inr =>
    rw [hr]
    obtain ⟨a0, a1, a2, a3, a4, a5, a6⟩ := ref_parts rs rg v hr
    clear hr
    go_wp2_with fail
    refine Calls.mono (Fields_three v 13 40 11 rs rg 0 _ _ _ a4 a5 a6 (by decide) (by go_size) (by go_cell) (by go_cell) (by go_cell)) ?_
    rintro e w3 ⟨g, off, d, rfl, hc0, hc1, hc2, hb⟩
    have hBy := Below.next hB2 (Below.next (by go_grown) hb)
    have x0 : w3.cell? ⟨w.heap.size, 0, none⟩ = some (.int .i64 rs) := (hb.cell (p := ⟨w.heap.size, 0, none⟩) (by go_size)).trans (by go_cell)
    have x1 : w3.cell? ⟨w.heap.size, 1, none⟩ = some (.int .i64 rg) := (hb.cell (p := ⟨w.heap.size, 1, none⟩) (by go_size)).trans (by go_cell)
    clear hb y0 y1 yl hB2
    go_wp2
    go_quiet (fail)
    have hBz : Below w.heap.size w (w3.drewN nq) := Below.next hBy (below_draws _ _ _)
    clear x0 x1 hc0 hc1 hc2 hBy
  all_goals
    go_wp2_with fail
    refine (PutRing_any n p _).mono ?_
    rintro e w4 ⟨rfl, hb⟩
    have hB4 := Below.next hBz hb
    clear hb hBz
    rcases ringS_cases n p with hr | ⟨u, hr⟩
    case' inl =>
      rw [hr]
      have hBq := hB4
      clear hr hB4
    case' inr =>
      rw [hr]
      obtain ⟨a0, a1, a2, a3, a4, a5, a6, a7⟩ := ring_parts n p u hr
      have HD := Lib.hid a7
      clear hr a7
      go_wp2_with fail
      refine Calls.mono (Fields_three u 13 13 38 (n + 1) (p + 1) 0 _ _ _ a4 a5 a6 (by decide) (by go_size) (by go_cell) (by go_cell) (by go_cell)) ?_
      rintro e w5 ⟨g, off, d, rfl, hc0, hc1, hc2, hb⟩
      have hB5 := Below.next hB4 (Below.next (by go_grown) hb)
      have hgl := World.block_lt_of_cell? _ _ hc0
      clear hb hB4
      go_wp2_with fail
      refine (Ring_any u _ a4 a5).mono ?_
      rintro e w6 ⟨rfl, hb⟩
      rw [HD.out]
      have hBq := Below.next hB5 hb
      have k0 := (hb.cell (p := ⟨g, off, none⟩) hgl).trans hc0
      have k1 := (hb.cell (p := ⟨g, off + 1, none⟩) hgl).trans hc1
      have k2 := (hb.cell (p := ⟨g, off + 2, none⟩) hgl).trans hc2
      clear hb hB5 hc0 hc1 hc2 hgl a6
    all_goals
      go_wp2_with fail
      refine (PutEntry_any s l _).mono ?_
      rintro e w7 ⟨rfl, hb⟩
      have hB7 := Below.next hBq hb
      clear hb hBq
      rcases entS_cases s l with hr | ⟨t, hr⟩
      · rw [hr]
        have HE := Lib.hid hr
        clear hr
        go_wp2
        go_ret
        exact ⟨rfl, hB7⟩
      · rw [hr]
        obtain ⟨c0, c1, c2, c3, c4, c5, c6, c7⟩ := ent_parts s l t hr
        have HD' := Lib.hid c7
        clear hr c7
        go_wp2_with fail
        refine Calls.mono (Fields_three t 13 3 48 s l 0 _ _ _ c4 c5 c6 (by decide) (by go_size) (by go_cell) (by go_cell) (by go_cell)) ?_
        rintro e w8 ⟨g', off', d', rfl, hc0, hc1, hc2, hb⟩
        have hB8 := Below.next hB7 (Below.next (by go_grown) hb)
        have hgl := World.block_lt_of_cell? _ _ hc0
        clear hb hB7
        go_wp2_with fail
        refine (Entry_any t _ c4 c5).mono ?_
        rintro e w9 ⟨rfl, hb⟩
        rw [HD'.out]
        have hB9 := Below.next hB8 hb
        have k0' := (hb.cell (p := ⟨g', off', none⟩) hgl).trans hc0
        have k1' := (hb.cell (p := ⟨g', off' + 1, none⟩) hgl).trans hc1
        have k2' := (hb.cell (p := ⟨g', off' + 2, none⟩) hgl).trans hc2
        clear hb hB8 hc0 hc1 hc2 hgl c6
        go_wp2
        go_ret
        exact ⟨rfl, hB9⟩

end Go.Proofs.Ytegnnhlbmfbioaa
