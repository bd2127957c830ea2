/- The document's arena (ganglionref21), by contract: State, Gen, Count, set. -/
import Derived.Test.YtoaikdnooafjmaaArJ
import Derived.Test.YtoaikdnooafjmaaLits
import Derived.Test.YtoaikdnooafjmaaClkNew
import Derived.Test.YtoaikdnooafjmaaBx
namespace Go.Proofs.Ytoaikdnooafjmaa
open Go.RowKit

/-- An arena of the document's, as a value. -/
def aV (A1 : Option Addr) (l1 c1 : Nat) (A2 : Option Addr) (l2 c2 : Nat) (A3 : Option Addr) (l3 c3 : Nat) : Value := .agg #[.slice A1 l1 c1, .slice A2 l2 c2, .slice A3 l3 c3]
def natJ (L : List Nat) : List Int := L.map Int.ofNat
theorem natJ_at {L : List Nat} {k : Nat} (hk : k < L.length) : ((0 : Int) :: natJ L)[k + 1]? = some ((L.getD k 0 : Nat) : Int) := by
  rw [List.getElem?_cons_succ]
  unfold natJ
  rw [List.getElem?_map, List.getD_eq_getElem?_getD, List.getElem?_eq_getElem hk]
  rfl
theorem natJ_set (L : List Nat) (k v : Nat) : ((0 : Int) :: natJ L).set (k + 1) (v : Int) = 0 :: natJ (L.set k v) := by
  rw [List.set_cons_succ]
  unfold natJ
  rw [List.map_set]
  rfl
theorem natJ_len (L : List Nat) : (natJ L).length = L.length := List.length_map _
/-- .. in memory. -/
def RA (w : World) (V : Value) (x : AR) : Prop := ∃ A1 c1 A2 c2 A3 c3, V = aV A1 (x.st.length + 1) c1 A2 (x.st.length + 1) c2 A3 x.fr.length c3 ∧
  Rd (Value.int .i64) w w.heap.size A1 (0 :: natJ x.st) ∧ Rd (Value.int .i64) w w.heap.size A2 (0 :: natJ x.gn) ∧ Rd (Value.int .i64) w w.heap.size A3 (natJ x.fr) ∧ x.fr.length ≤ c3 ∧ c3 ≤ 9223372036854775807 ∧ ∃ b o, A3 = some ⟨b, o, none⟩ ∧ b < w.heap.size
theorem RA.later {w w' : World} {V : Value} {x : AR} (h : RA w V x) (hb : Below w.heap.size w w') : RA w' V x := by
  obtain ⟨A1, c1, A2, c2, A3, c3, e, r1, r2, r3, r4, r5, b, o, r6, r7⟩ := h
  exact ⟨A1, c1, A2, c2, A3, c3, e, rd_later r1 hb, rd_later r2 hb, rd_later r3 hb, r4, r5, b, o, r6, Nat.lt_of_lt_of_le r7 hb.size⟩
/-- The blocks of its lists. -/
def bl (A : Option Addr) (b : Nat) : Prop := ∃ o, A = some ⟨b, o, none⟩
def VB (V : Value) (b : Nat) : Prop := ∃ A1 l1 c1 A2 l2 c2 A3 l3 c3, V = aV A1 l1 c1 A2 l2 c2 A3 l3 c3 ∧ (bl A1 b ∨ bl A2 b ∨ bl A3 b)
theorem VB_aV {A1 A2 A3 : Option Addr} {l1 c1 l2 c2 l3 c3 b : Nat} : VB (aV A1 l1 c1 A2 l2 c2 A3 l3 c3) b ↔ bl A1 b ∨ bl A2 b ∨ bl A3 b := by
  constructor
  · rintro ⟨B1, _, _, B2, _, _, B3, _, _, e, h⟩
    unfold aV at e
    injection e with e
    injection e with e
    injection e with e1 e
    injection e with e2 e
    injection e with e3 _
    injection e1 with e1
    injection e2 with e2
    injection e3 with e3
    rw [e1, e2, e3]
    exact h
  · exact fun h => ⟨_, _, _, _, _, _, _, _, _, rfl, h⟩
theorem VB.turn {A1 A2 A3 B1 B2 B3 : Option Addr} {l1 c1 l2 c2 l3 c3 m1 d1 m2 d2 m3 d3 N : Nat} (h1 : B1 = A1 ∨ ∀ g o, B1 = some ⟨g, o, none⟩ → N ≤ g) (h2 : B2 = A2 ∨ ∀ g o, B2 = some ⟨g, o, none⟩ → N ≤ g) (h3 : B3 = A3 ∨ ∀ g o, B3 = some ⟨g, o, none⟩ → N ≤ g) :
    ∀ b, VB (aV B1 m1 d1 B2 m2 d2 B3 m3 d3) b → VB (aV A1 l1 c1 A2 l2 c2 A3 l3 c3) b ∨ N ≤ b := fun b hb => by
  rw [VB_aV]
  rcases VB_aV.1 hb with ⟨o, e⟩ | ⟨o, e⟩ | ⟨o, e⟩
  · rcases h1 with h | h
    · exact .inl (.inl ⟨o, h ▸ e⟩)
    · exact .inr (h b o e)
  · rcases h2 with h | h
    · exact .inl (.inr (.inl ⟨o, h ▸ e⟩))
    · exact .inr (h b o e)
  · rcases h3 with h | h
    · exact .inl (.inr (.inr ⟨o, h ▸ e⟩))
    · exact .inr (h b o e)
theorem RA.lt {w : World} {V : Value} {x : AR} (h : RA w V x) {b : Nat} (hb : VB V b) : b < w.heap.size := by
  obtain ⟨A1, c1, A2, c2, A3, c3, rfl, r1, r2, r3, r4, r5, b3, o3, r6, r7⟩ := h
  have at0 : ∀ {A : Option Addr} {L : List Int}, Rd (Value.int .i64) w w.heap.size A (0 :: L) → ∀ o, A = some ⟨b, o, none⟩ → b < w.heap.size := fun hr o e => by
    obtain ⟨b', o', e', hlt, _⟩ := hr 0 0 rfl
    rw [e] at e'
    injection e' with e'
    injection e' with e'
    omega
  rcases VB_aV.1 hb with ⟨o, e⟩ | ⟨o, e⟩ | ⟨o, e⟩
  · exact at0 r1 o e
  · exact at0 r2 o e
  · rw [e] at r6
    injection r6 with r6
    injection r6 with r6
    omega
theorem RA.keep {w w' : World} {V : Value} {x : AR} (h : RA w V x) (hk : ∀ b, VB V b → w'.heap[b]? = w.heap[b]?) (hs : w.heap.size ≤ w'.heap.size) : RA w' V x := by
  have hlt := fun b => h.lt (b := b)
  obtain ⟨A1, c1, A2, c2, A3, c3, rfl, r1, r2, r3, r4, r5, b3, o3, r6, r7⟩ := h
  have go : ∀ {A : Option Addr} {L : List Int}, (∀ b o, A = some ⟨b, o, none⟩ → VB (aV A1 (x.st.length + 1) c1 A2 (x.st.length + 1) c2 A3 x.fr.length c3) b) → Rd (Value.int .i64) w w.heap.size A L → Rd (Value.int .i64) w' w'.heap.size A L := fun hv hr i z hi => by
    obtain ⟨b, o, e, hb, hc⟩ := hr i z hi
    exact ⟨b, o, e, Nat.lt_of_lt_of_le hb hs, (World.cell?_of_block (w := w) (hk b (hv b o e))).trans hc⟩
  exact ⟨A1, c1, A2, c2, A3, c3, rfl, go (fun b o e => VB_aV.2 (.inl ⟨o, e⟩)) r1, go (fun b o e => VB_aV.2 (.inr (.inl ⟨o, e⟩))) r2, go (fun b o e => VB_aV.2 (.inr (.inr ⟨o, e⟩))) r3, r4, r5, b3, o3, r6, Nat.lt_of_lt_of_le r7 hs⟩
section
variable {w : World} {V : Value} {x : AR}
set_option maxHeartbeats 1000000 in
theorem RaState_any (h : RA w V x) (v : Int) :
    Calls Try.prog 69 #[V, .int .i64 v] w fun e w' => e = .returned (.int .i64 (arSt x v)) ∧ Below w.heap.size w w' := by
  obtain ⟨A1, c1, A2, c2, A3, c3, rfl, r1, r2, r3, _⟩ := h
  have HB := Lib.hid (below_new w (.cells #[.slice A1 (x.st.length + 1) c1, .slice A2 (x.st.length + 1) c2, .slice A3 x.fr.length c3] 93))
  unfold aV
  cases hh : arHas x v with
  | false =>
    rw [show arSt x v = -1 by unfold arSt; rw [hh]; rfl]
    have hn := of_decide_eq_false (show decide (1 ≤ v ∧ v ≤ (x.st.length : Int)) = false from hh)
    clear r1 r2 r3 hh
    obtain ⟨l1, hl1⟩ : ∃ l1, x.st.length + 1 = l1 := ⟨_, rfl⟩
    by_cases h1 : v < 1
    · rw [hl1] at HB
      rw [hl1]
      clear hl1 hn
      go_enter Try.func69, Try.ntmps69
      go_wp2
      go_ret
      exact ⟨rfl, HB.out⟩
    · have h2 : (l1 : Int) ≤ v := by omega
      rw [hl1] at HB
      rw [hl1]
      clear hl1 hn
      go_enter Try.func69, Try.ntmps69
      go_wp2
      go_ret
      exact ⟨rfl, HB.out⟩
  | true =>
    obtain ⟨k, rfl, hk⟩ := arHas_nat hh
    rw [arSt_in hk]
    obtain ⟨b1, o1, rfl, hb1, hc⟩ := r1 (k + 1) _ (natJ_at hk)
    have hc := (HB.out.cell (p := ⟨b1, o1 + (k + 1), none⟩) hb1).trans hc
    rw [show (k : Int) + 1 = ((k + 1 : Nat) : Int) by omega]
    have h2 : ((k + 1 : Nat) : Int) < ((x.st.length + 1 : Nat) : Int) := by omega
    have h1 : (1 : Int) ≤ ((k + 1 : Nat) : Int) := by omega
    have h0 : (0 : Int) ≤ ((k + 1 : Nat) : Int) := by omega
    clear r2 r3 hh hb1
    generalize x.st.getD k 0 = r at *
    obtain ⟨l1, hl1⟩ : ∃ l1, x.st.length + 1 = l1 := ⟨_, rfl⟩
    obtain ⟨j, hj⟩ : ∃ j, k + 1 = j := ⟨_, rfl⟩
    rw [hl1] at HB h2 hc
    rw [hl1]
    rw [hj] at hc h0 h1 h2
    rw [hj]
    clear hl1 hj hk
    go_enter Try.func69, Try.ntmps69
    go_wp2
    go_ret
    exact ⟨rfl, HB.out⟩
set_option maxHeartbeats 1000000 in
theorem RaGen_any (h : RA w V x) (hg : x.gn.length = x.st.length) (v : Int) :
    Calls Try.prog 71 #[V, .int .i64 v] w fun e w' => e = .returned (.int .i64 (arGn x v)) ∧ Below w.heap.size w w' := by
  obtain ⟨A1, c1, A2, c2, A3, c3, rfl, r1, r2, r3, h5⟩ := h
  have hb := below_new w (.cells #[.slice A1 (x.st.length + 1) c1, .slice A2 (x.st.length + 1) c2, .slice A3 x.fr.length c3] 93)
  have hx := Bx.new w [.slice A1 (x.st.length + 1) c1, .slice A2 (x.st.length + 1) c2, .slice A3 x.fr.length c3] 93
  have HS := Lib.hid (RaState_any (V := aV A1 (x.st.length + 1) c1 A2 (x.st.length + 1) c2 A3 x.fr.length c3) (RA.later ⟨A1, c1, A2, c2, A3, c3, rfl, r1, r2, r3, h5⟩ hb) v)
  have HB := Lib.hid hb
  have HX := Lib.hid hx
  unfold aV at *
  cases hh : arHas x v with
  | false =>
    rw [show arSt x v = -1 by unfold arSt; rw [hh]; rfl] at HS
    rw [show arGn x v = -1 by unfold arGn; rw [hh]; rfl]
    clear r1 r2 r3 hh hb hx hg h5
    generalize x.st.length + 1 = l1 at *
    generalize x.fr.length = l3 at *
    go_enter Try.func71, Try.ntmps71
    go_wp2_with fail
    refine HS.out.mono ?_
    rintro e w2 ⟨rfl, hb2⟩
    have HB2 := Lib.hid (Below.next HB.out hb2)
    clear hb2 HS HX
    go_wp2
    go_ret
    exact ⟨rfl, HB2.out⟩
  | true =>
    obtain ⟨k, rfl, hk⟩ := arHas_nat hh
    rw [arSt_in hk] at HS
    rw [arGn_in hk]
    obtain ⟨b1, o1, rfl, hb1, hc⟩ := r2 (k + 1) _ (natJ_at (by rw [hg]; exact hk))
    have HC := Lib.hid (And.intro hb1 hc)
    rw [show (k : Int) + 1 = ((k + 1 : Nat) : Int) by omega] at HS
    rw [show (k : Int) + 1 = ((k + 1 : Nat) : Int) by omega]
    have h2 : ((k + 1 : Nat) : Int) < ((x.st.length + 1 : Nat) : Int) := by omega
    have h0 : (0 : Int) ≤ ((k + 1 : Nat) : Int) := by omega
    clear r1 r3 hh hb1 hb hx hc h5 hg
    generalize x.gn.getD k 0 = r at *
    generalize x.st.getD k 0 = s at *
    have hs : ¬ (s : Int) < 0 := by omega
    obtain ⟨l1, hl1⟩ : ∃ l1, x.st.length + 1 = l1 := ⟨_, rfl⟩
    obtain ⟨j, hj⟩ : ∃ j, k + 1 = j := ⟨_, rfl⟩
    rw [hl1] at HB h2 HS HX
    rw [hl1]
    rw [hj] at HC h0 h2 HS
    rw [hj]
    clear hl1 hj hk
    go_enter Try.func71, Try.ntmps71
    go_wp2_with fail
    refine HS.out.mono ?_
    rintro e w2 ⟨rfl, hb2⟩
    have HB2 := Lib.hid (Below.next HB.out hb2)
    have x1 := (HX.out.below hb2).c 1 _ rfl
    have hc := (HB2.out.cell (p := ⟨b1, o1 + j, none⟩) HC.out.1).trans HC.out.2
    clear hb2 HS HX HC
    go_wp2
    go_ret
    exact ⟨rfl, HB2.out⟩
/-- How many of the first k have a state. -/
def cntK (L : List Nat) (v : Int) (k : Nat) : Nat := (L.take k).countP fun (s : Nat) => decide ((s : Int) = v)
theorem cntK_succ {L : List Nat} (v : Int) {k : Nat} (hk : k < L.length) : cntK L v (k + 1) = cntK L v k + if ((L.getD k 0 : Nat) : Int) = v then 1 else 0 := by
  unfold cntK
  rw [List.take_succ_eq_append_getElem hk, List.countP_append, List.getD_eq_getElem?_getD, List.getElem?_eq_getElem hk]
  simp only [List.countP_singleton, Option.getD_some, decide_eq_true_eq]
theorem cntK_le (L : List Nat) (v : Int) (k : Nat) : cntK L v k ≤ k := Nat.le_trans List.countP_le_length (by rw [List.length_take]; omega)
theorem cntK_all {n : Nat} (h : AFit n x) (v : Int) : ((cntK x.st v x.st.length : Nat) : Int) = arCnt x v := by
  unfold cntK arCnt
  rw [List.take_length]
  by_cases hv : 0 ≤ v ∧ v < 5
  · rw [if_pos hv]
    congr 1
    unfold List.count
    congr 1
    funext s
    rw [Bool.eq_iff_iff]
    simp
    omega
  · rw [if_neg hv]
    have : x.st.countP (fun (s : Nat) => decide ((s : Int) = v)) = 0 := by
      rw [List.countP_eq_zero]
      intro s hs
      obtain ⟨k, hk, rfl⟩ := List.mem_iff_getElem.1 hs
      have := h.s4 k
      rw [List.getD_eq_getElem?_getD, List.getElem?_eq_getElem hk] at this
      simp only [Option.getD_some] at this
      simp
      omega
    rw [this]
    rfl
set_option maxHeartbeats 1000000 in
theorem RaCount_any {n : Nat} (h : RA w V x) (hf : AFit n x) (v : Int) :
    Calls Try.prog 73 #[V, .int .i64 v] w fun e w' => e = .returned (.int .i64 (arCnt x v)) ∧ Below w.heap.size w w' := by
  obtain ⟨A1, c1, A2, c2, A3, c3, rfl, r1, r2, r3, _⟩ := h
  have HB := Lib.hid (below_new w (.cells #[.slice A1 (x.st.length + 1) c1, .slice A2 (x.st.length + 1) c2, .slice A3 x.fr.length c3] 93))
  obtain ⟨b1, o1, rfl, hb1, _⟩ := r1 0 0 rfl
  have HC : Hid (∀ k, k < x.st.length → (w.alloc (.cells #[.slice (some ⟨b1, o1, none⟩) (x.st.length + 1) c1, .slice A2 (x.st.length + 1) c2, .slice A3 x.fr.length c3] 93)).cell? ⟨b1, o1 + (k + 1), none⟩ = some (.int .i64 ((x.st.getD k 0 : Nat) : Int))) := Lib.hid fun k hk => by
    obtain ⟨b2, o2, e, _, hc⟩ := r1 (k + 1) _ (natJ_at hk)
    injection e with e
    injection e with e1 e2
    subst e1 e2
    exact (HB.out.cell (p := ⟨b1, o1 + (k + 1), none⟩) hb1).trans hc
  have HA := Lib.hid (cntK_all hf v)
  have hfew := hf.few
  unfold aV
  clear r1 r2 r3 hb1 hf
  generalize hS : x.st = S at *
  obtain ⟨l1, hl1⟩ : ∃ l1, S.length + 1 = l1 := ⟨_, rfl⟩
  rw [hl1] at HB HC
  rw [hl1]
  have hl2 : (l1 : Int) ≤ 4097 := by omega
  have HL := Lib.hid hl1
  clear hl1 hfew hS
  go_enter Try.func73, Try.ntmps73
  go_wp2
  go_loop [5, 6] (fun n i => ∃ k : Nat, k + 1 ≤ l1 ∧ i = .int .i64 ((k + 1 : Nat) : Int) ∧ n = .int .i64 ((cntK S v k : Nat) : Int)) (fun _ i => l1 - (intOf i).toNat)
  case atStart => exact ⟨0, by have := HL.out; omega, rfl, rfl⟩
  case round =>
    obtain ⟨k, hk, rfl, rfl⟩ := hrel
    have hle := cntK_le S v k
    by_cases hlt : k < S.length
    · have hc := HC.out k hlt
      have HS := Lib.hid (cntK_succ v hlt)
      obtain ⟨j, hj⟩ : ∃ j, k + 1 = j := ⟨_, rfl⟩
      have hj1 : (j : Int) < (l1 : Int) := by have := HL.out; omega
      have hj0 : (0 : Int) ≤ (j : Int) := by omega
      rw [hj] at hc
      rw [hj]
      generalize S.getD k 0 = s at *
      generalize hcn : cntK S v k = cn at *
      have hcn1 : (cn : Int) ≤ 4097 := by omega
      by_cases he : (s : Int) = v
      · have HE : Hid (cntK S v (k + 1) = cn + 1) := Lib.hid (by rw [HS.out, if_pos he])
        have hJ := Lib.hid hj
        subst he
        clear HS hcn hj
        go_wp2
        go_round
        case rel => exact ⟨j, by omega, by go_num, by rw [← hJ.out, HE.out]; go_num⟩
        case measure => simp [intOf]; omega
      · have HE : Hid (cntK S v (k + 1) = cn) := Lib.hid (by rw [HS.out, if_neg he]; rfl)
        have he2 : ((s : Int) == v) = false := by simpa using he
        have hJ := Lib.hid hj
        clear HS hcn hj he
        go_wp2
        go_round
        case rel => exact ⟨j, by omega, by go_num, by rw [← hJ.out, HE.out]⟩
        case measure => simp [intOf]; omega
    · have hkl : k = S.length := by have := HL.out; omega
      subst hkl
      have h9 : (l1 : Int) ≤ ((S.length + 1 : Nat) : Int) := by have := HL.out; omega
      go_wp2
      go_ret
      exact ⟨ret_int HA.out, HB.out⟩
end

end Go.Proofs.Ytoaikdnooafjmaa
