/- The law's own question of the answers that the document gives (lives), for package race: the answer is 'true'. -/
import Derived.Test.YtdgmcaehadigaaaRacDeed
namespace Go.Proofs.Ytdgmcaehadigaaa
open Go.RowKit

theorem RdC.lit1 {w : World} {b : Nat} (x : ClT) (hb : b < w.heap.size) (h0 : w.cell? ⟨b, 0, none⟩ = some (.int .i64 x.1.1.1)) (h1 : w.cell? ⟨b, 1, none⟩ = some (.int .i64 x.1.1.2)) (h2 : w.cell? ⟨b, 2, none⟩ = some (.bool x.1.2))
    (h3 : w.cell? ⟨b, 3, none⟩ = some (.int .i64 x.2.1.1)) (h4 : w.cell? ⟨b, 4, none⟩ = some (.int .i64 x.2.1.2)) (h5 : w.cell? ⟨b, 5, none⟩ = some (.bool x.2.2)) : RdC w (some ⟨b, 0, none⟩) [x] := fun k u hk => by
  have e : cellsCl [x] = [.int .i64 x.1.1.1, .int .i64 x.1.1.2, .bool x.1.2, .int .i64 x.2.1.1, .int .i64 x.2.1.2, .bool x.2.2] := rfl
  rw [e] at hk
  refine ⟨b, 0, rfl, hb, ?_⟩
  rw [Nat.zero_add]
  match k, hk with
  | 0, hk => simp at hk; subst hk; exact h0
  | 1, hk => simp at hk; subst hk; exact h1
  | 2, hk => simp at hk; subst hk; exact h2
  | 3, hk => simp at hk; subst hk; exact h3
  | 4, hk => simp at hk; subst hk; exact h4
  | 5, hk => simp at hk; subst hk; exact h5
theorem SameC_is {A B : Option Addr} {L : List ClT} {c d n : Nat} {w : World} (hn : L.length = n) (hA : RdC w A L) (hB : RdC w B L) (hl : L.length ≤ 100000) :
    Calls Try.prog 19 #[.slice A n c, .slice B n d] w fun e w' => e = .returned (.bool true) ∧ Below w.heap.size w w' := by
  subst hn
  exact (SameC_refl A B L c d w hA hB hl).mono fun _ _ ⟨he, hd⟩ => ⟨he, hd.below _⟩
section
variable {w0 w : World} {n m B1 B2 : Nat} {a1 a2 : AX}
theorem W2.more' (h : W2 w0 n B1 a1 B2 a2 w) (hm : n ≤ m) : W2 w0 m B1 a1 B2 a2 w := by
  obtain ⟨Z, ρ1, X1, ρ2, X2, ⟨h1, r1⟩, ⟨h2, r2⟩, r⟩ := h
  exact ⟨Z, ρ1, X1, ρ2, X2, ⟨h1.more hm, r1⟩, ⟨h2.more hm, r2⟩, r⟩
theorem Clashes_is (h : W2 w0 n B1 a1 B2 a2 w) (hn : n ≤ 100000) {L : List ClT} {l : Nat} (hL : a1.cl = L) (hl : L.length = l) :
    Calls Try.prog 20 #[.pointer (some ⟨B1, 0, none⟩)] w fun e w' => ∃ A c, e = .returned (.slice A l c) ∧ RdC w' A L ∧ W2 w0 n B1 a1 B2 a2 w' := by
  subst hL hl
  exact (Clashes_w2 h hn).mono fun e w' ⟨A, c, he, hr, hb⟩ => ⟨A, c, he, hr, h.later hb⟩
theorem Clock_is (h : W2 w0 n B1 a1 B2 a2 w) (k : Nat) (hk : k < 65) {L : List Int} {l : Nat} (hL : shortL (a1.N k) = L) (hl : L.length = l) :
    Calls Try.prog 17 #[.pointer (some ⟨B1, 0, none⟩), .int .i64 (k : Int)] w fun e w' => ∃ A c, e = .returned (.slice A l c) ∧ Rd (Value.int .i64) w' w'.heap.size A L ∧ W2 w0 n B1 a1 B2 a2 w' := by
  subst hL hl
  have h0 := h
  obtain ⟨Z, ρ1, X1, ρ2, X2, ⟨h1, rfl, rfl⟩, _⟩ := h
  exact (Clock_any h1 k hk).mono fun e w' ⟨A, c, he, hr, _, _, _, hb⟩ => ⟨A, c, he, hr, h0.later hb⟩
end

def xA1 : AX := writeA newA 0 7
def xA2 : AX := readA xA1 1 7
def yA2 : AX := storeA xA1 0 3
def yA3 : AX := loadA yA2 1 3
def yA4 : AX := readA yA3 1 7
def yA5 : AX := writeA yA4 0 7

set_option maxRecDepth 100000 in
set_option maxHeartbeats 8000000 in
theorem race_lives_any (w : World) : Calls Try.prog 8 #[] w fun e w' => e = .returned (.bool true) ∧ Below w.heap.size w w' := by
  have v1 : clashW newA 0 7 = none := by decide +kernel
  have v2 : hidW xA1 1 7 = true := by decide +kernel
  have v3 : hidW yA3 1 7 = false := by decide +kernel
  have v4 : (clashW yA4 0 7).isNone = false := by decide +kernel
  have v5 : xA2.cl = [(((0, 7), true), ((1, 7), false))] := by decide +kernel
  have v6 : yA5.cl = [(((1, 7), false), ((0, 7), true))] := by decide +kernel
  have v7 : shortL (yA5.N 1) = [1, 1] := by decide +kernel
  have v8 : shortL (yA5.N 0) = [2] := by decide +kernel
  have h7 : IsI 7 := isI_small (by decide)
  have h3 : IsI 3 := isI_small (by decide)
  have V1 := Lib.hid v1
  have V2 := Lib.hid v2
  have V3 := Lib.hid v3
  have V4 := Lib.hid v4
  have V5 := Lib.hid v5
  have V6 := Lib.hid v6
  have V7 := Lib.hid v7
  have V8 := Lib.hid v8
  clear v1 v2 v3 v4 v5 v6 v7 v8
  go_enter Try.func8, Try.ntmps8
  go_wp2_with fail
  refine (New_w1 w).mono ?_
  rintro e w1 ⟨B1, rfl, h1⟩
  have H := Lib.hid (W1.two h1)
  clear h1
  go_wp2_with fail
  refine H.out.mono ?_
  rintro e w2 ⟨B2, rfl, h2⟩
  have H := Lib.hid (Write_w2 h2 (by decide) 0 (by decide) 7 h7)
  rw [V1.out] at H
  clear h2
  go_wp2_with fail
  refine H.out.mono ?_
  rintro e w3 ⟨rfl, h2⟩
  have H := Lib.hid (Read_w2 (a1 := xA1) h2 (by decide) 1 (by decide) 7 h7)
  rw [V2.out] at H
  clear h2
  go_wp2_with fail
  refine H.out.mono ?_
  rintro e w4 ⟨rfl, h2⟩
  have H := Lib.hid (Write_w2 (W2.swap (a1 := xA2) h2) (by decide) 0 (by decide) 7 h7)
  rw [V1.out] at H
  clear h2
  go_wp2_with fail
  refine H.out.mono ?_
  rintro e w5 ⟨rfl, h2⟩
  have H := Lib.hid (Store_w2 (a1 := xA1) h2 (by decide) 0 (by decide) 3 h3)
  clear h2
  go_wp2_with fail
  refine H.out.mono ?_
  rintro e w6 ⟨rfl, h2⟩
  have H := Lib.hid (Load_w2 (a1 := yA2) h2 1 (by decide) 3 h3)
  clear h2
  go_wp2_with fail
  refine H.out.mono ?_
  rintro e w7 ⟨rfl, h2⟩
  have H := Lib.hid (Read_w2 (a1 := yA3) h2 (by decide) 1 (by decide) 7 h7)
  rw [V3.out] at H
  clear h2
  go_wp2_with fail
  refine H.out.mono ?_
  rintro e w8 ⟨rfl, h2⟩
  have H := Lib.hid (Write_w2 (a1 := yA4) h2 (by decide) 0 (by decide) 7 h7)
  rw [V4.out] at H
  clear h2
  go_wp2_with fail
  refine H.out.mono ?_
  rintro e w9 ⟨rfl, h2⟩
  have h2' := Lib.hid (W2.swap (a1 := yA5) h2)
  clear h2 H
  go_wp2_with fail
  refine (Store_nil _ _ _).mono ?_
  rintro e w' ⟨rfl, rfl⟩
  have H := Lib.hid (Clashes_is h2'.out (by decide) V5.out rfl)
  clear h2'
  go_wp2_with fail
  refine H.out.mono ?_
  rintro e w10 ⟨A10, c10, rfl, hr, h2⟩
  have HR := Lib.hid (hr.later (below_new _ (.cells #[.int .i64 0, .int .i64 7, .bool true, .int .i64 1, .int .i64 7, .bool false] 120)))
  have H2 := Lib.hid (h2.later (below_new _ (.cells #[.int .i64 0, .int .i64 7, .bool true, .int .i64 1, .int .i64 7, .bool false] 120)))
  clear hr h2 H
  go_wp2_with fail
  refine Calls.mono (SameC_is (L := [(((0, 7), true), ((1, 7), false))]) rfl HR.out (RdC.lit1 _ (by go_size) (by go_cell) (by go_cell) (by go_cell) (by go_cell) (by go_cell) (by go_cell)) (by decide)) ?_
  rintro e w11 ⟨rfl, hb⟩
  have h2 := (H2.out.later hb).swap
  have H := Lib.hid (Clashes_is h2 (by decide) V6.out rfl)
  clear h2 hb H2 HR
  go_wp2_with fail
  refine H.out.mono ?_
  rintro e w12 ⟨A12, c12, rfl, hr, h2⟩
  have HR := Lib.hid (hr.later (below_new _ (.cells #[.int .i64 1, .int .i64 7, .bool false, .int .i64 0, .int .i64 7, .bool true] 120)))
  have H2 := Lib.hid (h2.later (below_new _ (.cells #[.int .i64 1, .int .i64 7, .bool false, .int .i64 0, .int .i64 7, .bool true] 120)))
  clear hr h2 H
  go_wp2_with fail
  refine Calls.mono (SameC_is (L := [(((1, 7), false), ((0, 7), true))]) rfl HR.out (RdC.lit1 _ (by go_size) (by go_cell) (by go_cell) (by go_cell) (by go_cell) (by go_cell) (by go_cell)) (by decide)) ?_
  rintro e w13 ⟨rfl, hb⟩
  have h2 := H2.out.later hb
  have H := Lib.hid (Clock_is h2 1 (by decide) V7.out rfl)
  clear h2 hb H2 HR
  go_wp2_with fail
  refine H.out.mono ?_
  rintro e w14 ⟨A14, c14, rfl, hr, h2⟩
  have HR := Lib.hid (rd_later hr (below_new _ (.cells #[.int .i64 1, .int .i64 1] 3)))
  have H2 := Lib.hid (h2.later (below_new _ (.cells #[.int .i64 1, .int .i64 1] 3)))
  clear hr h2 H
  go_wp2_with fail
  refine Calls.mono (SameI_is (zs := [1, 1]) rfl HR.out (Rd.lit2 (by go_size) (by go_cell) (by go_cell)) (by decide)) ?_
  rintro e w15 ⟨rfl, hb⟩
  have h2 := H2.out.later hb
  have H := Lib.hid (Clock_is h2 0 (by decide) V8.out rfl)
  clear h2 hb H2 HR
  go_wp2_with fail
  refine H.out.mono ?_
  rintro e w16 ⟨A16, c16, rfl, hr, h2⟩
  have HR := Lib.hid (rd_later hr (below_new _ (.cells #[.int .i64 2] 3)))
  have H2 := Lib.hid (h2.later (below_new _ (.cells #[.int .i64 2] 3)))
  clear hr h2 H
  go_wp2_with fail
  refine Calls.mono (SameI_is (zs := [2]) rfl HR.out (Rd.lit1 (by go_size) (by go_cell)) (by decide)) ?_
  rintro e w17 ⟨rfl, hb⟩
  have HB := Lib.hid (H2.out.later hb).below
  clear hb H2 HR
  go_wp2_with fail
  refine (Write_not B1 (-1) 7 (by decide) _).mono ?_
  rintro e w' ⟨rfl, rfl⟩
  go_wp2_with fail
  refine (Read_nil _ _ _).mono ?_
  rintro e w' ⟨rfl, rfl⟩
  go_wp2_with fail
  refine (Clashes_nil _).mono ?_
  rintro e w' ⟨rfl, rfl⟩
  go_wp2
  go_ret
  exact ⟨rfl, HB.out⟩

end Go.Proofs.Ytdgmcaehadigaaa
