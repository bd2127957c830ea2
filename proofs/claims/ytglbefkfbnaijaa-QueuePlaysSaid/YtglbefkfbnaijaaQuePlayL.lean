/- A queue and a best list tell what the document says, whatever is done (the law of 8.1 to 8.3), walked. -/
import Derived.Test.YtglbefkfbnaijaaRefOffer
import Derived.Test.YtglbefkfbnaijaaQueLives
import Derived.Test.YtglbefkfbnaijaaLawDeeds
namespace Go.Proofs.Ytglbefkfbnaijaa
open Go.RowKit Go.Shelf Go.Sort

theorem RdS.keptN {W W' : World} {B : Nat} {A : Option Addr} {zs : List SpotT} (h : RdS W B A zs) (hk : zs ≠ [] → ∀ k o, A = some ⟨k, o, none⟩ → W'.heap[k]? = W.heap[k]?) : RdS W' B A zs := by
  cases zs with
  | nil => exact RdS.nil
  | cons z r => exact h.kept (hk (by simp))
/-- The document's lists, in blocks that are no heap's. -/
structure QM (P : Nat → Prop) (W : World) (Ax : Option Addr) (x : List SpotT) (Ay : Option Addr) (y : List SpotT) : Prop where
  rx : RdS W W.heap.size Ax x
  ry : RdS W W.heap.size Ay y
  px : x ≠ [] → ∀ k o, Ax = some ⟨k, o, none⟩ → P k
  py : y ≠ [] → ∀ k o, Ay = some ⟨k, o, none⟩ → P k
section
variable {P : Nat → Prop} {W W' : World} {Ax Ay : Option Addr} {x y : List SpotT}
theorem QM.stay (h : QM P W Ax x Ay y) (hs : Stay P W W') : QM P W' Ax x Ay y :=
  ⟨(h.rx.keptN fun hx k o e => hs k (h.px hx k o e)).more hs.size, (h.ry.keptN fun hy k o e => hs k (h.py hy k o e)).more hs.size, h.px, h.py⟩
theorem QM.adds (h : QM P W Ax x Ay y) (hb : Below W.heap.size W W') : QM (fun k => P k ∨ (W.heap.size ≤ k ∧ k < W'.heap.size)) W' Ax x Ay y :=
  ⟨rdS_later h.rx hb, rdS_later h.ry hb, fun hx k o e => .inl (h.px hx k o e), fun hy k o e => .inl (h.py hy k o e)⟩
theorem QM.later (h : QM P W Ax x Ay y) (hb : Below W.heap.size W W') : QM P W' Ax x Ay y := ⟨rdS_later h.rx hb, rdS_later h.ry hb, h.px, h.py⟩
theorem QM.less {P' : Nat → Prop} (h : QM P W Ax x Ay y) (hp : ∀ k, P k → P' k) : QM P' W Ax x Ay y := ⟨h.rx, h.ry, fun hx k o e => hp k (h.px hx k o e), fun hy k o e => hp k (h.py hy k o e)⟩
theorem RdS.blk {B : Nat} {A : Option Addr} {zs : List SpotT} (h : RdS W B A zs) (hz : zs ≠ []) : ∀ k o, A = some ⟨k, o, none⟩ → k < B := by
  intro k o e
  cases zs with
  | nil => exact absurd rfl hz
  | cons z r =>
    obtain ⟨g, off, e2, hb, _⟩ := h 0 z rfl
    rw [e] at e2
    injection e2 with e2
    injection e2 with e3
    omega
theorem RdS.tail {B b off c : Nat} {z : SpotT} {r : List SpotT} (h : RdS W B (some ⟨b, off, none⟩) (z :: r)) (hc : r.length + 1 ≤ c) :
    ∃ D : Option Addr, (if c = 1 then some (⟨b, off, none⟩ : Addr) else some ⟨b, off + 3, none⟩) = D ∧ RdS W B D r ∧ ∀ k o, D = some ⟨k, o, none⟩ → k = b := by
  by_cases h1 : c = 1
  · have hr : r = [] := List.eq_nil_of_length_eq_zero (by omega)
    subst hr
    refine ⟨_, rfl, RdS.nil, fun k o e => ?_⟩
    rw [if_pos h1] at e
    injection e with e
    injection e with e
    exact e.symm
  · refine ⟨_, rfl, ?_, fun k o e => ?_⟩
    · rw [if_neg h1]
      intro k s hs
      obtain ⟨g, o, e, hb, c0, c1, c2⟩ := h (k + 1) s (by simpa using hs)
      injection e with e
      injection e with e1 e2
      subst e1 e2
      exact ⟨b, off + 3, rfl, hb, by rw [show off + 3 + k * 3 = off + (k + 1) * 3 by omega]; exact c0, by rw [show off + 3 + k * 3 + 1 = off + (k + 1) * 3 + 1 by omega]; exact c1, by rw [show off + 3 + k * 3 + 2 = off + (k + 1) * 3 + 2 by omega]; exact c2⟩
    · rw [if_neg h1] at e
      injection e with e
      injection e with e
      exact e.symm
end
/-- What the law keeps, a round at a time. -/
structure QS (w : World) (bq bl m n : Nat) (W : World) (P : Nat → Prop) (x O : List SpotT) (Ax : Option Addr) (cx : Nat) (Ay : Option Addr) : Prop where
  f : Fam P w W [⟨bq, none, x⟩, ⟨bl, some m, O⟩]
  q : QM P W Ax x Ay (keepS m O)
  s : sortS x = x
  c : x.length ≤ cx ∧ cx ≤ 9223372036854775807
  lx : x.length ≤ n
  lo : O.length ≤ n

section
variable {P : Nat → Prop} {X W : World} {ss : List HSp} {i b m : Nat} {L : List SpotT}
theorem PL.len (h : Fam P X W ss) (hi : ss[i]? = some ⟨b, none, L⟩) : Calls Try.prog 26 #[.pointer (some ⟨b, 0, none⟩)] W fun e W' => e = .returned (.int .i64 ((L.length : Nat) : Int)) ∧ Below W.heap.size W W' := by
  refine (Fam.len h hi).mono ?_
  rintro e W' ⟨he, rfl⟩
  exact ⟨he, Below.refl _ _⟩
theorem PL.full (h : Fam P X W ss) (hi : ss[i]? = some ⟨b, some m, L⟩) : Calls Try.prog 27 #[.pointer (some ⟨b, 0, none⟩)] W fun e W' => e = .returned (.bool ((((keepS m L).length : Nat) : Int) == (((m : Nat) : Int) : Int))) ∧ Below W.heap.size W W' := by
  refine (Fam.full h hi).mono ?_
  rintro e W' ⟨he, q, rfl⟩
  have hl := keepS_len m L
  have e2 : decide (m ≤ (keepS m L).length) = ((((keepS m L).length : Nat) : Int) == (((m : Nat) : Int) : Int)) := by
    rw [Bool.eq_iff_iff, decide_eq_true_iff, beq_iff_eq]
    omega
  rw [e2] at he
  exact ⟨he, below_draws W q _⟩
theorem PL.most (most : Int) (W : World) : Calls Try.prog 28 #[.int .i64 most] W fun e W' => e = .returned (.int .i64 ((bestN most : Nat) : Int)) ∧ Below W.heap.size W W' := by
  refine (refMost_any most W).mono ?_
  rintro e W' ⟨he, rfl⟩
  exact ⟨he, Below.refl _ _⟩
theorem PL.same {A1 B : Option Addr} {c1 c2 : Nat} {L : List SpotT} (hr : RdS W W.heap.size A1 L) (hl : RdS W W.heap.size B L) (hn : L.length ≤ 1000) :
    Calls Try.prog 29 #[.slice A1 L.length c1, .slice B L.length c2] W fun e W' => e = .returned (.bool true) ∧ Below W.heap.size W W' :=
  (SameS_refl A1 B L c1 c2 _ hr hl (by omega)).mono fun _ _ ⟨he, hd⟩ => ⟨he, hd.below _⟩
theorem QS.later {w W W' : World} {bq bl m n : Nat} {P : Nat → Prop} {x O : List SpotT} {Ax : Option Addr} {cx : Nat} {Ay : Option Addr} (h : QS w bq bl m n W P x O Ax cx Ay) (hb : Below W.heap.size W W') : QS w bq bl m n W' P x O Ax cx Ay := ⟨h.f.later hb, h.q.later hb, h.s, h.c, h.lx, h.lo⟩
theorem QS.adds {w W W' : World} {bq bl m n : Nat} {P : Nat → Prop} {x O : List SpotT} {Ax : Option Addr} {cx : Nat} {Ay : Option Addr} (h : QS w bq bl m n W P x O Ax cx Ay) (hb : Below W.heap.size W W') : QS w bq bl m n W' (fun k => P k ∨ (W.heap.size ≤ k ∧ k < W'.heap.size)) x O Ax cx Ay := ⟨h.f.adds hb, h.q.adds hb, h.s, h.c, h.lx, h.lo⟩
end
/-- A deed in its block. -/
def DdC (W : World) (D : Nat) (d : DdT) : Prop := W.cell? ⟨D, 0, none⟩ = some (.int .i64 d.1) ∧ W.cell? ⟨D, 1, none⟩ = some (.int .u64 d.2.1.1) ∧ W.cell? ⟨D, 2, none⟩ = some (.int .u64 d.2.1.2) ∧ W.cell? ⟨D, 3, none⟩ = some (.int .i64 d.2.2)
theorem DdC.same {W W' : World} {D : Nat} {d : DdT} (h : DdC W D d) (e : W'.heap[D]? = W.heap[D]?) : DdC W' D d :=
  ⟨(World.cell?_of_block (a := ⟨D, 0, none⟩) e).trans h.1, (World.cell?_of_block (a := ⟨D, 1, none⟩) e).trans h.2.1, (World.cell?_of_block (a := ⟨D, 2, none⟩) e).trans h.2.2.1, (World.cell?_of_block (a := ⟨D, 3, none⟩) e).trans h.2.2.2⟩
theorem DdC.new (W : World) (k x y z : Int) : DdC (W.alloc (.cells #[.int .i64 k, .int .u64 x, .int .u64 y, .int .i64 z] 35)) W.heap.size (k, ((x, y), z)) := ⟨by go_cell, by go_cell, by go_cell, by go_cell⟩
def qpDs00 (bq bl m : Nat) (most x1 x2 x3 y1 y2 y3 : Int) (E G bx ox by_ oy j cx cy : Nat) (Ax Ay : Option Addr) (x Y : List SpotT) : List Ds := [.c (.pointer (some ⟨bq, 0, none⟩)), .c (.int .i64 ((x.length : Nat) : Int)), .c (.slice (Ax) x.length cx), .c (.int .i64 ((x.length : Nat) : Int)), .c (.bool false), .c (.bool false), .c (.bool false), .c (.slice (Ax) x.length cx), .c (.int .i64 ((x.length : Nat) : Int)), .c (.bool false), .c (.bool false), .c (.bool false), .c (.bool false), .c (.bool false), .c (.bool false), .c undef, .c undef, .c undef, .c undef, .c undef, .c (.bool false), .c (.bool false), .c (.bool false), .c (.bool false), .c (.slice (Ay) Y.length cy), .c (.int .i64 ((Y.length : Nat) : Int)), .c (.bool false), .c (.bool false), .c (.bool false), .c (.bool false), .c (.bool false), .c (.bool false), .c undef, .c undef, .c undef, .c undef, .c undef, .c undef, .c undef, .c undef, .c (.bool false), .c (.bool false), .c (.bool false), .c (.pointer (some ⟨bl, 0, none⟩)), .c (.bool ((((Y.length : Nat) : Int) : Int) == (((m : Nat) : Int) : Int))), .c (.slice (Ay) Y.length cy), .c (.int .i64 ((Y.length : Nat) : Int)), .c (.int .i64 most), .c (.int .i64 ((m : Nat) : Int)), .c (.bool ((((Y.length : Nat) : Int) : Int) == (((m : Nat) : Int) : Int))), .c (.bool false), .c (.bool false), .c (.bool false), .c (.pointer (some ⟨bl, 0, none⟩)), .sp Y, .c (.slice (Ay) Y.length cy), .c (.bool true), .c (.bool false), .c (.bool false)]
def qpDs01 (bq bl m : Nat) (most x1 x2 x3 y1 y2 y3 : Int) (E G bx ox by_ oy j cx cy : Nat) (Ax Ay : Option Addr) (x Y : List SpotT) : List Ds := [.c (.pointer (some ⟨bq, 0, none⟩)), .c (.int .i64 ((x.length : Nat) : Int)), .c (.slice (Ax) x.length cx), .c (.int .i64 ((x.length : Nat) : Int)), .c (.bool false), .c (.bool false), .c (.bool false), .c (.slice (Ax) x.length cx), .c (.int .i64 ((x.length : Nat) : Int)), .c (.bool false), .c (.bool false), .c (.bool false), .c (.bool false), .c (.bool false), .c (.bool false), .c undef, .c undef, .c undef, .c undef, .c undef, .c (.bool false), .c (.bool false), .c (.bool false), .c (.bool true), .c (.slice (some ⟨by_, oy, none⟩) Y.length cy), .c (.int .i64 ((Y.length : Nat) : Int)), .c (.bool true), .c (.bool false), .c (.bool false), .c (.bool false), .c (.bool true), .c (.bool true), .c (sptV ((y1, y2), y3)), .c (.slice (some ⟨by_, oy, none⟩) Y.length cy), .c (.slice (some ⟨by_, oy, none⟩) Y.length cy), .c (.int .i64 ((Y.length : Nat) : Int)), .c (.int .i64 ((j : Nat) : Int)), .c (.pointer (some ⟨by_, oy + j * 3, none⟩)), .c (sptV ((y1, y2), y3)), .c (.bool false), .c (.bool false), .c (.bool false), .c (.bool false), .c (.pointer (some ⟨bl, 0, none⟩)), .c (.bool ((((Y.length : Nat) : Int) : Int) == (((m : Nat) : Int) : Int))), .c (.slice (some ⟨by_, oy, none⟩) Y.length cy), .c (.int .i64 ((Y.length : Nat) : Int)), .c (.int .i64 most), .c (.int .i64 ((m : Nat) : Int)), .c (.bool ((((Y.length : Nat) : Int) : Int) == (((m : Nat) : Int) : Int))), .c (.bool false), .c (.bool false), .c (.bool false), .c (.pointer (some ⟨bl, 0, none⟩)), .sp Y, .c (.slice (some ⟨by_, oy, none⟩) Y.length cy), .c (.bool true), .c (.bool false), .c (.bool false)]
def qpDs10 (bq bl m : Nat) (most x1 x2 x3 y1 y2 y3 : Int) (E G bx ox by_ oy j cx cy : Nat) (Ax Ay : Option Addr) (x Y : List SpotT) : List Ds := [.c (.pointer (some ⟨bq, 0, none⟩)), .c (.int .i64 ((x.length : Nat) : Int)), .c (.slice (some ⟨bx, ox, none⟩) x.length cx), .c (.int .i64 ((x.length : Nat) : Int)), .c (.bool false), .c (.bool false), .c (.bool true), .c (.slice (some ⟨bx, ox, none⟩) x.length cx), .c (.int .i64 ((x.length : Nat) : Int)), .c (.bool true), .c (.bool false), .c (.bool false), .c (.bool false), .c (.bool true), .c (.bool true), .c (sptV ((x1, x2), x3)), .c (.slice (some ⟨bx, ox, none⟩) x.length cx), .c (.pointer (some ⟨bx, ox + 0 * 3, none⟩)), .c (sptV ((x1, x2), x3)), .c (.bool false), .c (.bool false), .c (.bool false), .c (.bool false), .c (.bool false), .c (.slice (Ay) Y.length cy), .c (.int .i64 ((Y.length : Nat) : Int)), .c (.bool false), .c (.bool false), .c (.bool false), .c (.bool false), .c (.bool false), .c (.bool false), .c undef, .c undef, .c undef, .c undef, .c undef, .c undef, .c undef, .c undef, .c (.bool false), .c (.bool false), .c (.bool false), .c (.pointer (some ⟨bl, 0, none⟩)), .c (.bool ((((Y.length : Nat) : Int) : Int) == (((m : Nat) : Int) : Int))), .c (.slice (Ay) Y.length cy), .c (.int .i64 ((Y.length : Nat) : Int)), .c (.int .i64 most), .c (.int .i64 ((m : Nat) : Int)), .c (.bool ((((Y.length : Nat) : Int) : Int) == (((m : Nat) : Int) : Int))), .c (.bool false), .c (.bool false), .c (.bool false), .c (.pointer (some ⟨bl, 0, none⟩)), .sp Y, .c (.slice (Ay) Y.length cy), .c (.bool true), .c (.bool false), .c (.bool false)]
def qpDs11 (bq bl m : Nat) (most x1 x2 x3 y1 y2 y3 : Int) (E G bx ox by_ oy j cx cy : Nat) (Ax Ay : Option Addr) (x Y : List SpotT) : List Ds := [.c (.pointer (some ⟨bq, 0, none⟩)), .c (.int .i64 ((x.length : Nat) : Int)), .c (.slice (some ⟨bx, ox, none⟩) x.length cx), .c (.int .i64 ((x.length : Nat) : Int)), .c (.bool false), .c (.bool false), .c (.bool true), .c (.slice (some ⟨bx, ox, none⟩) x.length cx), .c (.int .i64 ((x.length : Nat) : Int)), .c (.bool true), .c (.bool false), .c (.bool false), .c (.bool false), .c (.bool true), .c (.bool true), .c (sptV ((x1, x2), x3)), .c (.slice (some ⟨bx, ox, none⟩) x.length cx), .c (.pointer (some ⟨bx, ox + 0 * 3, none⟩)), .c (sptV ((x1, x2), x3)), .c (.bool false), .c (.bool false), .c (.bool false), .c (.bool false), .c (.bool true), .c (.slice (some ⟨by_, oy, none⟩) Y.length cy), .c (.int .i64 ((Y.length : Nat) : Int)), .c (.bool true), .c (.bool false), .c (.bool false), .c (.bool false), .c (.bool true), .c (.bool true), .c (sptV ((y1, y2), y3)), .c (.slice (some ⟨by_, oy, none⟩) Y.length cy), .c (.slice (some ⟨by_, oy, none⟩) Y.length cy), .c (.int .i64 ((Y.length : Nat) : Int)), .c (.int .i64 ((j : Nat) : Int)), .c (.pointer (some ⟨by_, oy + j * 3, none⟩)), .c (sptV ((y1, y2), y3)), .c (.bool false), .c (.bool false), .c (.bool false), .c (.bool false), .c (.pointer (some ⟨bl, 0, none⟩)), .c (.bool ((((Y.length : Nat) : Int) : Int) == (((m : Nat) : Int) : Int))), .c (.slice (some ⟨by_, oy, none⟩) Y.length cy), .c (.int .i64 ((Y.length : Nat) : Int)), .c (.int .i64 most), .c (.int .i64 ((m : Nat) : Int)), .c (.bool ((((Y.length : Nat) : Int) : Int) == (((m : Nat) : Int) : Int))), .c (.bool false), .c (.bool false), .c (.bool false), .c (.pointer (some ⟨bl, 0, none⟩)), .sp Y, .c (.slice (some ⟨by_, oy, none⟩) Y.length cy), .c (.bool true), .c (.bool false), .c (.bool false)]

set_option maxRecDepth 100000 in
set_option maxHeartbeats 16000000 in
theorem QueuePlays_walk (most : Int) (A : Option Addr) (ds : List DdT) (ca : Nat) (w : World) (hD : DdS w w.heap.size A ds) (_h1 : ds.length ≤ ca) (_h2 : ca ≤ 9223372036854775807) (_h3 : A = none → ca = 0) :
    Calls Try.prog 3 #[.int .i64 most, .slice A ds.length ca] w fun e w' => e = .returned (.bool true) ∧ Below w.heap.size w w' := by
  have mixed : Try.prog.follows .mixedOrders = true := by kernel_rfl
  by_cases hlong : 100 < ds.length
  · have h3 : (100 : Int) < (ds.length : Int) := by omega
    clear hD hlong
    go_enter Try.func3, Try.ntmps3
    go_wp2_with fail
    refine (que_lives_any _).mono ?_
    rintro e w1 ⟨rfl, hb⟩
    go_wp2
    go_ret
    exact ⟨rfl, hb⟩
  · have l1 : ¬ (100 : Int) < (ds.length : Int) := by omega
    have n1 : ds.length ≤ 100 := by omega
    have HD := Lib.hid hD
    have N := Lib.hid n1
    clear hD hlong n1
    have hm : bestN most ≤ 4096 := bestN_le most
    have HMO := fun W => PL.most most W
    have HOR := fun A O ca s w hA hl => refOffer_any A O ca most s w hA hl
    go_enter Try.func3, Try.ntmps3
    go_wp2_with fail
    refine (qNew_any w).mono ?_
    rintro e w2 ⟨bq, rfl, q1, q2, q3⟩
    have F1 := (Fam.nil (P := fun k => k < w.heap.size) w (fun _ h => h)).newQ q1 q2 q3
    clear q1 q2 q3
    go_wp2_with fail
    refine (bNew_any most w2).mono ?_
    rintro e w3 ⟨bl, rfl, r1, r2, r3, r4⟩
    have HF := Lib.hid (show Fam (fun k => k < w.heap.size) w w3 [⟨bq, none, []⟩, ⟨bl, some (bestN most), []⟩] from F1.newB r1 r2 r3 r4)
    clear r1 r2 r3 r4 F1
    have HMOs := Lib.hid HMO
    have HORs := Lib.hid HOR
    clear HMO HOR
    generalize bestN most = m at *
    have HM := Lib.hid hm
    clear hm
    go_wp2
    go_loopw [34, 7, 8] (fun i vx vy wr => ∃ (k : Nat) (P : Nat → Prop) (x O : List SpotT) (Ax : Option Addr) (cx : Nat) (Ay : Option Addr) (cy : Nat), k ≤ ds.length ∧ i = .int .i64 k ∧ vx = .slice Ax x.length cx ∧ vy = .slice Ay (keepS m O).length cy ∧ Hid (QS w bq bl m k wr P x O Ax cx Ay)) (fun i _ _ _ => ds.length - (intOf i).toNat)
    case atStart => exact ⟨0, fun b => b < w.heap.size, [], [], none, 0, none, 0, Nat.zero_le _, rfl, rfl, by rw [keepS_nil']; rfl, ⟨HF.out, ⟨RdS.nil, by rw [keepS_nil']; exact RdS.nil, fun h => absurd rfl h, by rw [keepS_nil']; exact fun h => absurd rfl h⟩, sortS_nil, ⟨Nat.le_refl _, by omega⟩, Nat.le_refl _, Nat.le_refl _⟩⟩
    case round =>
      clear HF
      obtain ⟨k, P, x, O, Ax, cx, Ay, cy, hk, rfl, rfl, rfl, HQ⟩ := hrel
      by_cases hlt : k < ds.length
      · obtain ⟨b, off, rfl, hb, h0, h1, h2, h3⟩ := (HD.out.below HQ.out.f.below) k _ (List.getElem?_eq_getElem hlt)
        generalize ds[k] = d at *
        obtain ⟨kind, ⟨⟨za, zb⟩, zc⟩⟩ := d
        simp only at h0 h1 h2 h3
        have hkl : (k : Int) < (ds.length : Int) := by omega
        have hk0 : (0 : Int) ≤ (k : Int) := by omega
        have hkn : ((k : Int)).toNat = k := Int.toNat_natCast k
        have hbX := below_new3 wr (.cells #[.int .i64 kind, .int .u64 za, .int .u64 zb, .int .i64 zc] 35)
        have HQ1 := Lib.hid (HQ.out.adds hbX)
        have HDC := Lib.hid (DdC.new wr kind za zb zc)
        have HDP : Hid (P wr.heap.size ∨ (wr.heap.size ≤ wr.heap.size ∧ wr.heap.size < (wr.alloc (.cells #[.int .i64 kind, .int .u64 za, .int .u64 zb, .int .i64 zc] 35)).heap.size)) := Lib.hid (.inr ⟨Nat.le_refl _, by simp⟩)
        clear hbX HQ
        go_upto_region 10 with (fail)
        generalize wr.alloc (.cells #[.int .i64 kind, .int .u64 za, .int .u64 zb, .int .i64 zc] 35) = X1 at *
        obtain ⟨P1, hP1⟩ : ∃ P1 : Nat → Prop, (fun k => P k ∨ (wr.heap.size ≤ k ∧ k < X1.heap.size)) = P1 := ⟨_, rfl⟩
        rw [hP1] at HQ1
        have HDP1 : Hid (P1 wr.heap.size) := by rw [Hid, ← hP1]; exact HDP.out
        generalize wr.heap.size = D at *
        clear h0 h1 h2 h3 hP1 HDP
        obtain ⟨d0, d1, d2, d3⟩ := HDC.out
        simp only at d0 d1 d2 d3
        go_upto_if 40 with (fail)
        go_cut [7, 8] (fun vx vy wx => ∃ (P : Nat → Prop) (x O : List SpotT) (Ax : Option Addr) (cx : Nat) (Ay : Option Addr) (cy : Nat), vx = .slice Ax x.length cx ∧ vy = .slice Ay (keepS m O).length cy ∧ Hid (QS w bq bl m (k + 1) wx P x O Ax cx Ay))
        case first =>
          by_cases hk3 : kind = 3
          · subst hk3
            have HQF := HQ1.out.f
            have HQQ := HQ1.out.q
            have HQS := HQ1.out.s
            have HQC := HQ1.out.c
            have HQL := HQ1.out.lx
            have HQO := HQ1.out.lo
            cases x with
            | nil =>
              have hx : spAt (sortS ([] : List SpotT)) 0 = ((0, 0), 0) := by rw [sortS_nil]; rfl
              go_wp2_with fail
              refine (Fam.pop HQF (i := 0) (b := bq) (L := []) rfl (by simp) hx).mono ?_
              rintro e W1 ⟨rfl, hf, hs⟩
              rw [HQS] at hf
              have hbN := below_new3 W1 (.cells #[.int .u64 0, .int .u64 0, .int .i64 0] 33)
              have HQN : Hid (QS w bq bl m (k + 1) (W1.alloc (.cells #[.int .u64 0, .int .u64 0, .int .i64 0] 33)) P1 [] O Ax cx Ay) := Lib.hid ⟨hf.later hbN, (HQQ.stay hs).later hbN, sortS_nil, HQC, Nat.zero_le _, by omega⟩
              obtain ⟨b0, b1, b2⟩ := SpC.new W1 0 0 0
              rw [show decide (0 < ([] : List SpotT).length) = false from rfl]
              clear hf hs hbN HQF HQQ HQS hx d0 d1 d2 d3 HQC HQL HQO
              go_upto_region 12 with (fail)
              generalize W1.alloc (.cells #[.int .u64 0, .int .u64 0, .int .i64 0] 33) = W2 at *
              generalize W1.heap.size = E at *
              go_quiet (fail)
              have HQM := Lib.hid (HQN.out.later (below_draws W2 nq W2.heap.size))
              generalize W2.drewN nq = W3 at *
              go_wp2
              go_meet
              exact ⟨P1, [], O, Ax, cx, Ay, cy, rfl, rfl, HQM.out⟩
            | cons z r =>
              obtain ⟨⟨x1, x2⟩, x3⟩ := z
              have hx : spAt (sortS (((x1, x2), x3) :: r)) 0 = ((x1, x2), x3) := by rw [HQS]; rfl
              have hrl : r.length + 1 ≤ k := HQL
              have hrc : r.length + 1 ≤ cx := HQC.1
              have hrs : sortS r = r := by
                have h1 := sortS_sorted (((x1, x2), x3) :: r)
                rw [HQS] at h1
                exact sortS_eq (List.Perm.refl _) (List.pairwise_cons.1 h1).2
              go_wp2_with fail
              refine (Fam.pop HQF (i := 0) (b := bq) (L := ((x1, x2), x3) :: r) rfl (by have := N.out; simp; omega) hx).mono ?_
              rintro e W1 ⟨rfl, hf, hs⟩
              rw [HQS] at hf
              have hbN := below_new3 W1 (.cells #[.int .u64 x1, .int .u64 x2, .int .i64 x3] 33)
              have hqm := (HQQ.stay hs).later hbN
              have HFN := Lib.hid (show Fam P1 w (W1.alloc (.cells #[.int .u64 x1, .int .u64 x2, .int .i64 x3] 33)) [⟨bq, none, r⟩, ⟨bl, some m, O⟩] from hf.later hbN)
              obtain ⟨b0, b1, b2⟩ := SpC.new W1 x1 x2 x3
              simp only at b0 b1 b2
              obtain ⟨bx, ox, rfl, hbx, c0, c1, c2⟩ := hqm.rx 0 _ rfl
              obtain ⟨Dx, hDx, hrD, hDb⟩ := RdS.tail hqm.rx hrc
              have HQD : Hid (QM P1 (W1.alloc (.cells #[.int .u64 x1, .int .u64 x2, .int .i64 x3] 33)) Dx r Ay (keepS m O)) := Lib.hid ⟨hrD, hqm.ry, fun _ q o e => by rw [hDb q o e]; exact hqm.px (by simp) bx ox rfl, hqm.py⟩
              simp only [Nat.zero_mul, Nat.add_zero] at c0 c1 c2
              have HC := Lib.hid (show r.length ≤ cx - 1 ∧ cx - 1 ≤ 9223372036854775807 from ⟨by omega, by have := HQC.2; omega⟩)
              have HS := Lib.hid hrs
              have HO := Lib.hid HQO
              have hr0 : (0 : Int) < ((r.length + 1 : Nat) : Int) := by omega
              have hr1 : (1 : Int) ≤ ((r.length + 1 : Nat) : Int) := by omega
              have hr0b : (0 : Int) < (r.length : Int) + 1 := by omega
              have hr1b : (1 : Int) ≤ (r.length : Int) + 1 := by omega
              have hr2 : ((r.length + 1 : Nat) : Int) ≤ (cx : Int) := by omega
              have hr2b : (r.length : Int) + 1 ≤ (cx : Int) := by omega
              rw [show decide (0 < (((x1, x2), x3) :: r).length) = true from decide_eq_true (Nat.succ_pos _)]
              rw [show (((x1, x2), x3) :: r).length = r.length + 1 from rfl]
              clear hf hs hbN HQF HQQ HQS hx d0 d1 d2 d3 hqm hrD hDb hrs hbx HQC HQO HQL
              go_upto_region 12 with (fail)
              generalize W1.alloc (.cells #[.int .u64 x1, .int .u64 x2, .int .i64 x3] 33) = W2 at *
              generalize W1.heap.size = E at *
              go_quiet (fail)
              have HFM := Lib.hid (HFN.out.later (below_draws W2 nq W2.heap.size))
              have HQM := Lib.hid (HQD.out.later (below_draws W2 nq W2.heap.size))
              generalize W2.drewN nq = W3 at *
              clear b0 b1 b2 c0 c1 c2
              go_wp2
              go_meet
              exact ⟨P1, r, O, Dx, cx - 1, Ay, cy, rfl, rfl, HFM.out, HQM.out, HS.out, HC.out, by omega, by have := HO.out; omega⟩
          · have HNK := hk3
            have hxl : x.length ≤ 1000 := by have := HQ1.out.lx; have := N.out; omega
            have hol : O.length ≤ 1000 := by have := HQ1.out.lo; have := N.out; omega
            have HXL := Lib.hid hxl
            have HOL := Lib.hid hol
            clear hxl hol
            cases ht : offQ m O ((za, zb), zc)
            all_goals
              go_wp2_with fail
              refine (Fam.push HQ1.out.f (i := 0) (b := bq) (L := x) rfl ((za, zb), zc) (by have := HXL.out; omega)).mono ?_
              rintro e W1 ⟨rfl, hf, hs⟩
              have HDC1 := Lib.hid (HDC.out.same (hs D HDP1.out))
              have HQM1 := Lib.hid (HQ1.out.q.stay hs)
              have HF1 := Lib.hid hf
              clear hf hs d0 d1 d2 d3
              obtain ⟨d0, d1, d2, d3⟩ := HDC1.out
              simp only at d0 d1 d2 d3
              go_wp2_with fail
              refine (refPush_new Ax x cx ((za, zb), zc) W1 HQM1.out.rx (by have := HXL.out; omega)).mono ?_
              rintro e W2 ⟨A2, c2, rfl, hr2, hc2, hm2, hb2, hn2⟩
              have HF2 := Lib.hid ((HF1.out.adds hb2).permQ (i := 0) (b := bq) (L := x ++ [((za, zb), zc)]) rfl (sortS_perm _).symm)
              have HQM2 : Hid (QM (fun q => P1 q ∨ (W1.heap.size ≤ q ∧ q < W2.heap.size)) W2 A2 (sortS (x ++ [((za, zb), zc)])) Ay (keepS m O)) := Lib.hid ⟨hr2, rdS_later HQM1.out.ry hb2, fun h q o e => .inr ⟨hn2 h q o e, hr2.blk h q o e⟩, fun h q o e => .inl (HQM1.out.py h q o e)⟩
              have HDC2 := Lib.hid (HDC1.out.same (hb2.block D (World.block_lt_of_cell? _ _ HDC1.out.1)))
              have HC2 := Lib.hid (And.intro hc2 hm2)
              clear hr2 hc2 hm2 hb2 hn2 d0 d1 d2 d3 HQM1
              obtain ⟨d0, d1, d2, d3⟩ := HDC2.out
              simp only at d0 d1 d2 d3
              have HOO := Lib.hid (HORs.out Ay O cy ((za, zb), zc) W2 HQM2.out.ry HOL.out)
              unfold OfferR OfferRK at HOO
              rw [ht] at HOO
              go_wp2_with fail
              refine HOO.out.mono ?_
              rintro e W3 ⟨A3, c3, rfl, hr3, hb3, hn3⟩
              have HF3 := Lib.hid (HF2.out.adds hb3)
              have HQM3 : Hid (QM (fun q => (P1 q ∨ (W1.heap.size ≤ q ∧ q < W2.heap.size)) ∨ (W2.heap.size ≤ q ∧ q < W3.heap.size)) W3 A2 (sortS (x ++ [((za, zb), zc)])) A3 (keepS m (O ++ [((za, zb), zc)]))) := Lib.hid ⟨rdS_later HQM2.out.rx hb3, hr3, fun h q o e => .inl (HQM2.out.px h q o e), fun h q o e => (hn3 h q o e).elim (fun e2 => .inl (HQM2.out.py (by rw [e2.2]; exact h) q o e2.1)) (fun hle => .inr ⟨hle, hr3.blk h q o e⟩)⟩
              have HDC3 := Lib.hid (HDC2.out.same (hb3.block D (World.block_lt_of_cell? _ _ HDC2.out.1)))
              clear hr3 hb3 hn3 d0 d1 d2 d3 HQM2 HOO
              obtain ⟨d0, d1, d2, d3⟩ := HDC3.out
              simp only at d0 d1 d2 d3
              have HOF := Lib.hid (Fam.offer HF3.out (i := 1) (b := bl) (m := m) (L := O) rfl ((za, zb), zc) (by have := HOL.out; omega))
              rw [ht] at HOF
              go_wp2_with fail
              refine HOF.out.mono ?_
              rintro e W4 ⟨rfl, hf, hs⟩
              have HF4 := Lib.hid hf
              have HQM4 := Lib.hid (HQM3.out.stay hs)
              clear hf hs d0 d1 d2 d3 HOF HQM3
              go_wp2
              go_meet
              exact ⟨_, sortS (x ++ [((za, zb), zc)]), O ++ [((za, zb), zc)], A2, c2, A3, c3, rfl, rfl, HF4.out, HQM4.out, sortS_perm_eq (sortS_perm _), HC2.out, by rw [sortS_len, List.length_append]; have := HQ1.out.lx; simp; omega, by rw [List.length_append]; have := HQ1.out.lo; simp; omega⟩
        case rest =>
          clear HQ1 HDC HDP1 d0 d1 d2 d3
          obtain ⟨P2, x, O, Ax, cx, Ay, cy, rfl, rfl, HQ⟩ := hcut
          obtain ⟨⟨⟨x1, x2⟩, x3⟩, hx⟩ : ∃ z, spAt (sortS x) 0 = z := ⟨_, rfl⟩
          have HXS := Lib.hid hx
          clear hx
          go_wp2_with fail
          refine (Fam.peek HQ.out.f (i := 0) (b := bq) (L := x) rfl HXS.out).mono ?_
          rintro e V1 ⟨rfl, hb⟩
          have HQ2 := Lib.hid (HQ.out.later (hb.alloc hb.size (.cells #[.int .u64 x1, .int .u64 x2, .int .i64 x3] 33)))
          have HE := Lib.hid (SpC.new V1 x1 x2 x3)
          clear hb HQ
          go_upto_region 23 with (fail)
          generalize V1.alloc (.cells #[.int .u64 x1, .int .u64 x2, .int .i64 x3] 33) = V2 at *
          generalize V1.heap.size = E at *
          obtain ⟨⟨⟨y1, y2⟩, y3⟩, hy⟩ : ∃ z, (if 0 < (keepS m O).length then spAt (keepS m O) ((keepS m O).length - 1) else ((0, 0), 0)) = z := ⟨_, rfl⟩
          have HYS := Lib.hid hy
          clear hy
          go_wp2_with fail
          refine (Fam.worst HQ2.out.f (i := 1) (b := bl) (m := m) (L := O) rfl HYS.out).mono ?_
          rintro e V3 ⟨rfl, hb⟩
          have hb4 := hb.alloc hb.size (.cells #[.int .u64 y1, .int .u64 y2, .int .i64 y3] 33)
          have HQ3 := Lib.hid (HQ2.out.later hb4)
          have HE3 := Lib.hid (HE.out.below hb4 (World.block_lt_of_cell? _ _ HE.out.1))
          have HG := Lib.hid (SpC.new V3 y1 y2 y3)
          clear hb hb4 HQ2 HE
          go_upto_region 24 with (fail)
          generalize V3.alloc (.cells #[.int .u64 y1, .int .u64 y2, .int .i64 y3] 33) = V4 at *
          generalize V3.heap.size = G at *
          have HF4 := HQ3.out.f
          have HFU : ∀ W, Below V4.drew.heap.size V4.drew W → Calls Try.prog 27 #[.pointer (some ⟨bl, 0, none⟩)] W fun e W' => e = .returned (.bool ((((keepS m O).length : Nat) : Int) == (((m : Nat) : Int) : Int))) ∧ Below W.heap.size W W' := fun W hb => PL.full (HF4.later ((below_draws V4 1 _).trans hb)) (i := 1) rfl
          have HLI : ∀ W, Below V4.drew.heap.size V4.drew W → Calls Try.prog 30 #[.pointer (some ⟨bl, 0, none⟩)] W (SpotsOut (keepS m O) W) := fun W hb => Fam.list (HF4.later ((below_draws V4 1 _).trans hb)) (i := 1) rfl (by have := HQ3.out.lo; have := N.out; omega)
          have hYL : (keepS m O).length ≤ 1000 := by rw [keepS_len]; have := HQ3.out.lo; have := N.out; omega
          have HQX : Hid (QS w bq bl m (k + 1) V4 P2 x O Ax cx Ay) := HQ3
          have HRX := HQ3.out.q.rx
          have HRY := HQ3.out.q.ry
          have HXE : spAt x 0 = ((x1, x2), x3) := by have := HXS.out; rw [HQ3.out.s] at this; exact this
          obtain ⟨Y, hY⟩ : ∃ Y, keepS m O = Y := ⟨_, rfl⟩
          rw [hY] at HFU HLI hYL HRY ⊢
          have HYY := HYS.out
          rw [hY] at HYY
          have HYeq := Lib.hid hY
          clear hY HQ3
          have HF : ∀ W, Below V4.drew.heap.size V4.drew W → Fam P2 w W [⟨bq, none, x⟩, ⟨bl, some m, O⟩] := fun W hb => HF4.later ((below_draws V4 1 _).trans hb)
          have CE : ∀ W, Below V4.drew.heap.size V4.drew W → SpC W E ((x1, x2), x3) := fun W hb => HE3.out.below ((below_draws V4 1 _).trans hb) (World.block_lt_of_cell? _ _ HE3.out.1)
          have CG : ∀ W, Below V4.drew.heap.size V4.drew W → SpC W G ((y1, y2), y3) := fun W hb => HG.out.below ((below_draws V4 1 _).trans hb) (World.block_lt_of_cell? _ _ HG.out.1)
          have CL : ∀ W, Below V4.drew.heap.size V4.drew W → RdS W W.heap.size Ay Y := fun W hb => rdS_later HRY ((below_draws V4 1 _).trans hb)
          have HMO := HMOs.out
          have HLX : x.length ≤ 1000 := by have := HQX.out.lx; have := N.out; omega
          clear HF4
          by_cases hx0 : 0 < x.length <;> by_cases hy0 : 0 < Y.length
          · have HXD : decide ((0 : Int) < ((x.length : Nat) : Int)) = true := decide_eq_true (by omega)
            have HYD : decide ((0 : Int) < ((Y.length : Nat) : Int)) = true := decide_eq_true (by omega)
            rw [decide_eq_true hx0, decide_eq_true hy0]
            obtain ⟨bx, ox, hAx, hbx, c0, c1, c2⟩ := HRX 0 _ (List.getElem?_eq_getElem hx0)
            subst hAx
            rw [← spAt_get hx0, HXE] at c0 c1 c2
            have CX : ∀ W, Below V4.drew.heap.size V4.drew W → W.cell? ⟨bx, ox + 0 * 3, none⟩ = some (.int .u64 x1) ∧ W.cell? ⟨bx, ox + 0 * 3 + 1, none⟩ = some (.int .u64 x2) ∧ W.cell? ⟨bx, ox + 0 * 3 + 2, none⟩ = some (.int .i64 x3) := fun W hb => ⟨(hb.cell (p := ⟨bx, ox + 0 * 3, none⟩) hbx).trans c0, (hb.cell (p := ⟨bx, ox + 0 * 3 + 1, none⟩) hbx).trans c1, (hb.cell (p := ⟨bx, ox + 0 * 3 + 2, none⟩) hbx).trans c2⟩
            have HX0 : 0 < x.length := hx0
            clear c0 c1 c2 HRX
            obtain ⟨j, hj⟩ : ∃ j, Y.length - 1 = j := ⟨_, rfl⟩
            have HJL : j < Y.length := by omega
            obtain ⟨by_, oy, hAy, hby, f0, f1, f2⟩ := HRY j _ (List.getElem?_eq_getElem HJL)
            subst hAy
            have hyj : spAt Y j = ((y1, y2), y3) := by rw [if_pos hy0, hj] at HYY; exact HYY
            rw [← spAt_get HJL, hyj] at f0 f1 f2
            have CY : ∀ W, Below V4.drew.heap.size V4.drew W → W.cell? ⟨by_, oy + j * 3, none⟩ = some (.int .u64 y1) ∧ W.cell? ⟨by_, oy + j * 3 + 1, none⟩ = some (.int .u64 y2) ∧ W.cell? ⟨by_, oy + j * 3 + 2, none⟩ = some (.int .i64 y3) := fun W hb => ⟨(hb.cell (p := ⟨by_, oy + j * 3, none⟩) hby).trans f0, (hb.cell (p := ⟨by_, oy + j * 3 + 1, none⟩) hby).trans f1, (hb.cell (p := ⟨by_, oy + j * 3 + 2, none⟩) hby).trans f2⟩
            have HJS : IntKind.i64.wrap (((Y.length : Nat) : Int) - 1) = ((j : Nat) : Int) := by rw [IntWalk.i64_in _ (by omega)]; omega
            clear f0 f1 f2 HRY
            refine region_held 167 mixed rfl (VD (qpDs11 bq bl m most x1 x2 x3 y1 y2 y3 E G bx ox by_ oy j cx cy none none x Y)) (VD_later _) (by kernel_rfl) ?_ ?_
            rotate_left 1
            · intro a' W h
              have e0 : a'.eval (.tmp 164) = .bool false := h.at_ 58 164 rfl
              have hbW : Below V4.drew.heap.size V4.drew W := h.hb
              obtain ⟨g, hg, hge⟩ := h.frame [106, 107, 108, 109, 110, 111, 112, 113, 114, 115, 116, 117, 118, 119, 120, 121, 122, 123, 124, 125, 126, 127, 128, 129, 130, 131, 132, 133, 134, 135, 136, 137, 138, 139, 140, 141, 142, 143, 144, 145, 146, 147, 148, 149, 150, 151, 152, 153, 154, 155, 156, 157, 158, 159, 160, 161, 162, 163, 164] rfl
              rw [hge 164] at e0
              clear h hge
              subst hg
              simp only [List.foldl_cons, List.foldl_nil, List.setIfInBounds_toArray, List.set_cons_zero, List.set_cons_succ, e0]
              have HQW := Lib.hid (HQX.out.later ((below_draws V4 1 _).trans hbW))
              rw [← HYeq.out]
              clear HFU HLI HF CE CG CL HMO HXD HYD e0 hbW HQX CX HX0 CY HJS
              go_wp2
              go_roundw
              case rel => exact ⟨k + 1, P2, x, O, _, cx, _, cy, by omega, by go_num, rfl, rfl, HQW.out⟩
              case measure => simp [intOf]; omega
            refine ⟨?_, ?_, ?_, ?_, ?_, ?_, ?_, ?_, ?_, ?_, ?_, ?_, ?_, ?_, ?_, ?_, ?_, ?_, ?_, ?_, ?_, ?_, ?_, ?_, ?_, ?_, ?_, ?_, ?_, ?_, ?_, ?_, ?_, ?_, ?_, ?_, ?_, ?_, ?_, ?_, ?_, ?_, ?_, ?_, ?_, ?_, ?_, ?_, ?_, ?_, ?_, ?_, ?_, ?_, ?_, ?_, ?_, ?_, ?_, trivial⟩
            · intro a W hb ho hg
              rw [if_pos (wanted_none rfl)]
              have e : a.eval (.tmp 5) = .pointer (some ⟨bq, 0, none⟩) := ho 5 (rfl)
              exact k_move rfl e rfl
            · intro a W hb ho hg
              rw [if_pos (wanted_none rfl)]
              have e0 : a.eval (.tmp 106) = .pointer (some ⟨bq, 0, none⟩) := hg 0 106 rfl rfl
              exact k_call (f := 26) rfl (by simp only [List.map_toArray, List.map_cons, List.map_nil, e0] <;> rfl) (by go_simp) (PL.len (HF W hb) (i := 0) rfl) (fun e W' h => ⟨_, h.1, h.2, rfl⟩)
            · intro a W hb ho hg
              rw [if_pos (wanted_none rfl)]
              have e : a.eval (.tmp 7) = .slice (some ⟨bx, ox, none⟩) x.length cx := ho 7 (rfl)
              exact k_move rfl e rfl
            · intro a W hb ho hg
              rw [if_pos (wanted_none rfl)]
              have e : a.eval (.tmp 108) = .slice (some ⟨bx, ox, none⟩) x.length cx := hg 2 108 rfl rfl
              exact k_run (r_len rfl e) rfl
            · intro a W hb ho hg
              rw [if_pos (wanted_none rfl)]
              have e : a.eval (.tmp 107) = .int .i64 ((x.length : Nat) : Int) := hg 1 107 rfl rfl
              have f : a.eval (.tmp 109) = .int .i64 ((x.length : Nat) : Int) := hg 3 109 rfl rfl
              exact k_run (r_neI rfl e f) rfl
            · intro a W hb ho hg
              rw [if_pos (wanted_none rfl)]
              have e : a.eval (.tmp 110) = .bool false := hg 4 110 rfl rfl
              exact k_move rfl e rfl
            · intro a W hb ho hg
              have eg : a.eval (.tmp 111) = .bool false := hg 5 111 rfl rfl
              rw [if_pos (wanted_some rfl rfl eg)]
              have e : a.eval (.tmp 16) = .bool true := ho 16 (rfl)
              exact k_move rfl e rfl
            · intro a W hb ho hg
              have eg : a.eval (.tmp 111) = .bool false := hg 5 111 rfl rfl
              rw [if_pos (wanted_some rfl rfl eg)]
              have e : a.eval (.tmp 7) = .slice (some ⟨bx, ox, none⟩) x.length cx := ho 7 (rfl)
              exact k_move rfl e rfl
            · intro a W hb ho hg
              have eg : a.eval (.tmp 111) = .bool false := hg 5 111 rfl rfl
              rw [if_pos (wanted_some rfl rfl eg)]
              have e : a.eval (.tmp 113) = .slice (some ⟨bx, ox, none⟩) x.length cx := hg 7 113 rfl rfl
              exact k_run (r_len rfl e) rfl
            · intro a W hb ho hg
              have eg : a.eval (.tmp 111) = .bool false := hg 5 111 rfl rfl
              rw [if_pos (wanted_some rfl rfl eg)]
              have e : a.eval (.tmp 114) = .int .i64 ((x.length : Nat) : Int) := hg 8 114 rfl rfl
              have f : a.eval (.const (.int .i64 0)) = .int .i64 0 := rfl
              exact k_run (r_gtr rfl e f HXD) rfl
            · intro a W hb ho hg
              have eg : a.eval (.tmp 111) = .bool false := hg 5 111 rfl rfl
              rw [if_pos (wanted_some rfl rfl eg)]
              have e : a.eval (.tmp 112) = .bool true := hg 6 112 rfl rfl
              have f : a.eval (.tmp 115) = .bool true := hg 9 115 rfl rfl
              exact k_run (r_neB rfl e f) rfl
            · intro a W hb ho hg
              rw [if_pos (wanted_none rfl)]
              have e : a.eval (.tmp 111) = .bool false := hg 5 111 rfl rfl
              have f : a.eval (.tmp 116) = .bool false := hg 10 116 rfl rfl
              exact k_pick rfl e (fun h => by cases h) (fun _ => f) rfl
            · intro a W hb ho hg
              rw [if_pos (wanted_none rfl)]
              have e : a.eval (.tmp 117) = .bool false := hg 11 117 rfl rfl
              exact k_move rfl e rfl
            · intro a W hb ho hg
              have eg : a.eval (.tmp 118) = .bool false := hg 12 118 rfl rfl
              rw [if_pos (wanted_some rfl rfl eg)]
              have e : a.eval (.tmp 16) = .bool true := ho 16 (rfl)
              exact k_move rfl e rfl
            · intro a W hb ho hg
              have eg : a.eval (.tmp 118) = .bool false := hg 12 118 rfl rfl
              rw [if_pos (wanted_some rfl rfl eg)]
              have e : a.eval (.tmp 119) = .bool true := hg 13 119 rfl rfl
              exact k_move rfl e rfl
            · intro a W hb ho hg
              have eg : a.eval (.tmp 120) = .bool true := hg 14 120 rfl rfl
              rw [if_pos (wanted_some rfl rfl eg)]
              have e : a.eval (.tmp 15) = .pointer (some ⟨E, 0, none⟩) := ho 15 (rfl)
              obtain ⟨q0, q1, q2⟩ := CE W hb
              exact k_run (r_load rfl e q0 q1 q2) rfl
            · intro a W hb ho hg
              have eg : a.eval (.tmp 120) = .bool true := hg 14 120 rfl rfl
              rw [if_pos (wanted_some rfl rfl eg)]
              have e : a.eval (.tmp 7) = .slice (some ⟨bx, ox, none⟩) x.length cx := ho 7 (rfl)
              exact k_move rfl e rfl
            · intro a W hb ho hg
              have eg : a.eval (.tmp 120) = .bool true := hg 14 120 rfl rfl
              rw [if_pos (wanted_some rfl rfl eg)]
              have e : a.eval (.tmp 122) = .slice (some ⟨bx, ox, none⟩) x.length cx := hg 16 122 rfl rfl
              have f : a.eval (.const (.int .i64 0)) = .int .i64 0 := rfl
              exact k_run (r_idx (k := 0) rfl e f HX0) rfl
            · intro a W hb ho hg
              have eg : a.eval (.tmp 120) = .bool true := hg 14 120 rfl rfl
              rw [if_pos (wanted_some rfl rfl eg)]
              have e : a.eval (.tmp 123) = .pointer (some ⟨bx, ox + 0 * 3, none⟩) := hg 17 123 rfl rfl
              obtain ⟨q0, q1, q2⟩ := CX W hb
              exact k_run (r_loadO rfl e q0 q1 q2) rfl
            · intro a W hb ho hg
              have eg : a.eval (.tmp 120) = .bool true := hg 14 120 rfl rfl
              rw [if_pos (wanted_some rfl rfl eg)]
              have e : a.eval (.tmp 121) = sptV ((x1, x2), x3) := hg 15 121 rfl rfl
              have f : a.eval (.tmp 124) = sptV ((x1, x2), x3) := hg 18 124 rfl rfl
              exact k_run (r_neS rfl e f) rfl
            · intro a W hb ho hg
              have eg : a.eval (.tmp 118) = .bool false := hg 12 118 rfl rfl
              rw [if_pos (wanted_some rfl rfl eg)]
              have e : a.eval (.tmp 120) = .bool true := hg 14 120 rfl rfl
              have f : a.eval (.tmp 125) = .bool false := hg 19 125 rfl rfl
              exact k_pick rfl e (fun _ => f) (fun h => by cases h) rfl
            · intro a W hb ho hg
              rw [if_pos (wanted_none rfl)]
              have e : a.eval (.tmp 118) = .bool false := hg 12 118 rfl rfl
              have f : a.eval (.tmp 126) = .bool false := hg 20 126 rfl rfl
              exact k_pick rfl e (fun h => by cases h) (fun _ => f) rfl
            · intro a W hb ho hg
              rw [if_pos (wanted_none rfl)]
              have e : a.eval (.tmp 127) = .bool false := hg 21 127 rfl rfl
              exact k_move rfl e rfl
            · intro a W hb ho hg
              have eg : a.eval (.tmp 128) = .bool false := hg 22 128 rfl rfl
              rw [if_pos (wanted_some rfl rfl eg)]
              have e : a.eval (.tmp 18) = .bool true := ho 18 (rfl)
              exact k_move rfl e rfl
            · intro a W hb ho hg
              have eg : a.eval (.tmp 128) = .bool false := hg 22 128 rfl rfl
              rw [if_pos (wanted_some rfl rfl eg)]
              have e : a.eval (.tmp 8) = .slice (some ⟨by_, oy, none⟩) Y.length cy := ho 8 (rfl)
              exact k_move rfl e rfl
            · intro a W hb ho hg
              have eg : a.eval (.tmp 128) = .bool false := hg 22 128 rfl rfl
              rw [if_pos (wanted_some rfl rfl eg)]
              have e : a.eval (.tmp 130) = .slice (some ⟨by_, oy, none⟩) Y.length cy := hg 24 130 rfl rfl
              exact k_run (r_len rfl e) rfl
            · intro a W hb ho hg
              have eg : a.eval (.tmp 128) = .bool false := hg 22 128 rfl rfl
              rw [if_pos (wanted_some rfl rfl eg)]
              have e : a.eval (.tmp 131) = .int .i64 ((Y.length : Nat) : Int) := hg 25 131 rfl rfl
              have f : a.eval (.const (.int .i64 0)) = .int .i64 0 := rfl
              exact k_run (r_gtr rfl e f HYD) rfl
            · intro a W hb ho hg
              have eg : a.eval (.tmp 128) = .bool false := hg 22 128 rfl rfl
              rw [if_pos (wanted_some rfl rfl eg)]
              have e : a.eval (.tmp 129) = .bool true := hg 23 129 rfl rfl
              have f : a.eval (.tmp 132) = .bool true := hg 26 132 rfl rfl
              exact k_run (r_neB rfl e f) rfl
            · intro a W hb ho hg
              rw [if_pos (wanted_none rfl)]
              have e : a.eval (.tmp 128) = .bool false := hg 22 128 rfl rfl
              have f : a.eval (.tmp 133) = .bool false := hg 27 133 rfl rfl
              exact k_pick rfl e (fun h => by cases h) (fun _ => f) rfl
            · intro a W hb ho hg
              rw [if_pos (wanted_none rfl)]
              have e : a.eval (.tmp 134) = .bool false := hg 28 134 rfl rfl
              exact k_move rfl e rfl
            · intro a W hb ho hg
              have eg : a.eval (.tmp 135) = .bool false := hg 29 135 rfl rfl
              rw [if_pos (wanted_some rfl rfl eg)]
              have e : a.eval (.tmp 18) = .bool true := ho 18 (rfl)
              exact k_move rfl e rfl
            · intro a W hb ho hg
              have eg : a.eval (.tmp 135) = .bool false := hg 29 135 rfl rfl
              rw [if_pos (wanted_some rfl rfl eg)]
              have e : a.eval (.tmp 136) = .bool true := hg 30 136 rfl rfl
              exact k_move rfl e rfl
            · intro a W hb ho hg
              have eg : a.eval (.tmp 137) = .bool true := hg 31 137 rfl rfl
              rw [if_pos (wanted_some rfl rfl eg)]
              have e : a.eval (.tmp 17) = .pointer (some ⟨G, 0, none⟩) := ho 17 (rfl)
              obtain ⟨q0, q1, q2⟩ := CG W hb
              exact k_run (r_load rfl e q0 q1 q2) rfl
            · intro a W hb ho hg
              have eg : a.eval (.tmp 137) = .bool true := hg 31 137 rfl rfl
              rw [if_pos (wanted_some rfl rfl eg)]
              have e : a.eval (.tmp 8) = .slice (some ⟨by_, oy, none⟩) Y.length cy := ho 8 (rfl)
              exact k_move rfl e rfl
            · intro a W hb ho hg
              have eg : a.eval (.tmp 137) = .bool true := hg 31 137 rfl rfl
              rw [if_pos (wanted_some rfl rfl eg)]
              have e : a.eval (.tmp 8) = .slice (some ⟨by_, oy, none⟩) Y.length cy := ho 8 (rfl)
              exact k_move rfl e rfl
            · intro a W hb ho hg
              have eg : a.eval (.tmp 137) = .bool true := hg 31 137 rfl rfl
              rw [if_pos (wanted_some rfl rfl eg)]
              have e : a.eval (.tmp 140) = .slice (some ⟨by_, oy, none⟩) Y.length cy := hg 34 140 rfl rfl
              exact k_run (r_len rfl e) rfl
            · intro a W hb ho hg
              have eg : a.eval (.tmp 137) = .bool true := hg 31 137 rfl rfl
              rw [if_pos (wanted_some rfl rfl eg)]
              have e : a.eval (.tmp 141) = .int .i64 ((Y.length : Nat) : Int) := hg 35 141 rfl rfl
              have f : a.eval (.const (.int .i64 1)) = .int .i64 1 := rfl
              exact k_run (r_sub rfl e f HJS) rfl
            · intro a W hb ho hg
              have eg : a.eval (.tmp 137) = .bool true := hg 31 137 rfl rfl
              rw [if_pos (wanted_some rfl rfl eg)]
              have e : a.eval (.tmp 139) = .slice (some ⟨by_, oy, none⟩) Y.length cy := hg 33 139 rfl rfl
              have f : a.eval (.tmp 142) = .int .i64 ((j : Nat) : Int) := hg 36 142 rfl rfl
              exact k_run (r_idx (k := j) rfl e f HJL) rfl
            · intro a W hb ho hg
              have eg : a.eval (.tmp 137) = .bool true := hg 31 137 rfl rfl
              rw [if_pos (wanted_some rfl rfl eg)]
              have e : a.eval (.tmp 143) = .pointer (some ⟨by_, oy + j * 3, none⟩) := hg 37 143 rfl rfl
              obtain ⟨q0, q1, q2⟩ := CY W hb
              exact k_run (r_loadO rfl e q0 q1 q2) rfl
            · intro a W hb ho hg
              have eg : a.eval (.tmp 137) = .bool true := hg 31 137 rfl rfl
              rw [if_pos (wanted_some rfl rfl eg)]
              have e : a.eval (.tmp 138) = sptV ((y1, y2), y3) := hg 32 138 rfl rfl
              have f : a.eval (.tmp 144) = sptV ((y1, y2), y3) := hg 38 144 rfl rfl
              exact k_run (r_neS rfl e f) rfl
            · intro a W hb ho hg
              have eg : a.eval (.tmp 135) = .bool false := hg 29 135 rfl rfl
              rw [if_pos (wanted_some rfl rfl eg)]
              have e : a.eval (.tmp 137) = .bool true := hg 31 137 rfl rfl
              have f : a.eval (.tmp 145) = .bool false := hg 39 145 rfl rfl
              exact k_pick rfl e (fun _ => f) (fun h => by cases h) rfl
            · intro a W hb ho hg
              rw [if_pos (wanted_none rfl)]
              have e : a.eval (.tmp 135) = .bool false := hg 29 135 rfl rfl
              have f : a.eval (.tmp 146) = .bool false := hg 40 146 rfl rfl
              exact k_pick rfl e (fun h => by cases h) (fun _ => f) rfl
            · intro a W hb ho hg
              rw [if_pos (wanted_none rfl)]
              have e : a.eval (.tmp 147) = .bool false := hg 41 147 rfl rfl
              exact k_move rfl e rfl
            · intro a W hb ho hg
              have eg : a.eval (.tmp 148) = .bool false := hg 42 148 rfl rfl
              rw [if_pos (wanted_some rfl rfl eg)]
              have e : a.eval (.tmp 6) = .pointer (some ⟨bl, 0, none⟩) := ho 6 (rfl)
              exact k_move rfl e rfl
            · intro a W hb ho hg
              have eg : a.eval (.tmp 148) = .bool false := hg 42 148 rfl rfl
              rw [if_pos (wanted_some rfl rfl eg)]
              have e0 : a.eval (.tmp 149) = .pointer (some ⟨bl, 0, none⟩) := hg 43 149 rfl rfl
              exact k_call (f := 27) rfl (by simp only [List.map_toArray, List.map_cons, List.map_nil, e0] <;> rfl) (by go_simp) (HFU W hb) (fun e W' h => ⟨_, h.1, h.2, rfl⟩)
            · intro a W hb ho hg
              have eg : a.eval (.tmp 148) = .bool false := hg 42 148 rfl rfl
              rw [if_pos (wanted_some rfl rfl eg)]
              have e : a.eval (.tmp 8) = .slice (some ⟨by_, oy, none⟩) Y.length cy := ho 8 (rfl)
              exact k_move rfl e rfl
            · intro a W hb ho hg
              have eg : a.eval (.tmp 148) = .bool false := hg 42 148 rfl rfl
              rw [if_pos (wanted_some rfl rfl eg)]
              have e : a.eval (.tmp 151) = .slice (some ⟨by_, oy, none⟩) Y.length cy := hg 45 151 rfl rfl
              exact k_run (r_len rfl e) rfl
            · intro a W hb ho hg
              have eg : a.eval (.tmp 148) = .bool false := hg 42 148 rfl rfl
              rw [if_pos (wanted_some rfl rfl eg)]
              have e : a.eval (.tmp 0) = .int .i64 most := ho 0 (rfl)
              exact k_move rfl e rfl
            · intro a W hb ho hg
              have eg : a.eval (.tmp 148) = .bool false := hg 42 148 rfl rfl
              rw [if_pos (wanted_some rfl rfl eg)]
              have e0 : a.eval (.tmp 153) = .int .i64 most := hg 47 153 rfl rfl
              exact k_call (f := 28) rfl (by simp only [List.map_toArray, List.map_cons, List.map_nil, e0] <;> rfl) (by go_simp) (HMO W) (fun e W' h => ⟨_, h.1, h.2, rfl⟩)
            · intro a W hb ho hg
              have eg : a.eval (.tmp 148) = .bool false := hg 42 148 rfl rfl
              rw [if_pos (wanted_some rfl rfl eg)]
              have e : a.eval (.tmp 152) = .int .i64 ((Y.length : Nat) : Int) := hg 46 152 rfl rfl
              have f : a.eval (.tmp 154) = .int .i64 ((m : Nat) : Int) := hg 48 154 rfl rfl
              exact k_run (r_eqI rfl e f) rfl
            · intro a W hb ho hg
              have eg : a.eval (.tmp 148) = .bool false := hg 42 148 rfl rfl
              rw [if_pos (wanted_some rfl rfl eg)]
              have e : a.eval (.tmp 150) = .bool ((((Y.length : Nat) : Int) : Int) == (((m : Nat) : Int) : Int)) := hg 44 150 rfl rfl
              have f : a.eval (.tmp 155) = .bool ((((Y.length : Nat) : Int) : Int) == (((m : Nat) : Int) : Int)) := hg 49 155 rfl rfl
              exact k_run (r_neB rfl e f) rfl
            · intro a W hb ho hg
              rw [if_pos (wanted_none rfl)]
              have e : a.eval (.tmp 148) = .bool false := hg 42 148 rfl rfl
              have f : a.eval (.tmp 156) = .bool false := hg 50 156 rfl rfl
              exact k_pick rfl e (fun h => by cases h) (fun _ => f) rfl
            · intro a W hb ho hg
              rw [if_pos (wanted_none rfl)]
              have e : a.eval (.tmp 157) = .bool false := hg 51 157 rfl rfl
              exact k_move rfl e rfl
            · intro a W hb ho hg
              have eg : a.eval (.tmp 158) = .bool false := hg 52 158 rfl rfl
              rw [if_pos (wanted_some rfl rfl eg)]
              have e : a.eval (.tmp 6) = .pointer (some ⟨bl, 0, none⟩) := ho 6 (rfl)
              exact k_move rfl e rfl
            · intro a W hb ho hg
              have eg : a.eval (.tmp 158) = .bool false := hg 52 158 rfl rfl
              rw [if_pos (wanted_some rfl rfl eg)]
              have e0 : a.eval (.tmp 159) = .pointer (some ⟨bl, 0, none⟩) := hg 53 159 rfl rfl
              exact k_call (f := 30) rfl (by simp only [List.map_toArray, List.map_cons, List.map_nil, e0] <;> rfl) (by go_simp) (HLI W hb) (fun e W' ⟨A, c, he, hr, _, _, hb'⟩ => ⟨_, he, hb', A, c, rfl, hr⟩)
            · intro a W hb ho hg
              have eg : a.eval (.tmp 158) = .bool false := hg 52 158 rfl rfl
              rw [if_pos (wanted_some rfl rfl eg)]
              have e : a.eval (.tmp 8) = .slice (some ⟨by_, oy, none⟩) Y.length cy := ho 8 (rfl)
              exact k_move rfl e rfl
            · intro a W hb ho hg
              have eg : a.eval (.tmp 158) = .bool false := hg 52 158 rfl rfl
              rw [if_pos (wanted_some rfl rfl eg)]
              obtain ⟨Ae0, ce0, e0, re0⟩ := (show ∃ A k, a.eval (.tmp 160) = .slice A Y.length k ∧ RdS W W.heap.size A Y from hg 54 160 rfl rfl)
              have e1 : a.eval (.tmp 161) = .slice (some ⟨by_, oy, none⟩) Y.length cy := hg 55 161 rfl rfl
              exact k_call (f := 29) rfl (by simp only [List.map_toArray, List.map_cons, List.map_nil, e0, e1] <;> rfl) (by go_simp) (PL.same re0 (CL W hb) hYL) (fun e W' h => ⟨_, h.1, h.2, rfl⟩)
            · intro a W hb ho hg
              have eg : a.eval (.tmp 158) = .bool false := hg 52 158 rfl rfl
              rw [if_pos (wanted_some rfl rfl eg)]
              have e : a.eval (.tmp 162) = .bool true := hg 56 162 rfl rfl
              exact k_not rfl e rfl
            · intro a W hb ho hg
              rw [if_pos (wanted_none rfl)]
              have e : a.eval (.tmp 158) = .bool false := hg 52 158 rfl rfl
              have f : a.eval (.tmp 163) = .bool false := hg 57 163 rfl rfl
              exact k_pick rfl e (fun h => by cases h) (fun _ => f) rfl
          · have HXD : decide ((0 : Int) < ((x.length : Nat) : Int)) = true := decide_eq_true (by omega)
            have HYD : decide ((0 : Int) < ((Y.length : Nat) : Int)) = false := decide_eq_false (by omega)
            rw [decide_eq_true hx0, decide_eq_false hy0]
            obtain ⟨bx, ox, hAx, hbx, c0, c1, c2⟩ := HRX 0 _ (List.getElem?_eq_getElem hx0)
            subst hAx
            rw [← spAt_get hx0, HXE] at c0 c1 c2
            have CX : ∀ W, Below V4.drew.heap.size V4.drew W → W.cell? ⟨bx, ox + 0 * 3, none⟩ = some (.int .u64 x1) ∧ W.cell? ⟨bx, ox + 0 * 3 + 1, none⟩ = some (.int .u64 x2) ∧ W.cell? ⟨bx, ox + 0 * 3 + 2, none⟩ = some (.int .i64 x3) := fun W hb => ⟨(hb.cell (p := ⟨bx, ox + 0 * 3, none⟩) hbx).trans c0, (hb.cell (p := ⟨bx, ox + 0 * 3 + 1, none⟩) hbx).trans c1, (hb.cell (p := ⟨bx, ox + 0 * 3 + 2, none⟩) hbx).trans c2⟩
            have HX0 : 0 < x.length := hx0
            clear c0 c1 c2 HRX
            refine region_held 167 mixed rfl (VD (qpDs10 bq bl m most x1 x2 x3 y1 y2 y3 E G bx ox 0 0 0 cx cy none Ay x Y)) (VD_later _) (by kernel_rfl) ?_ ?_
            rotate_left 1
            · intro a' W h
              have e0 : a'.eval (.tmp 164) = .bool false := h.at_ 58 164 rfl
              have hbW : Below V4.drew.heap.size V4.drew W := h.hb
              obtain ⟨g, hg, hge⟩ := h.frame [106, 107, 108, 109, 110, 111, 112, 113, 114, 115, 116, 117, 118, 119, 120, 121, 122, 123, 124, 125, 126, 127, 128, 129, 130, 131, 132, 133, 134, 135, 136, 137, 138, 139, 140, 141, 142, 143, 144, 145, 146, 147, 148, 149, 150, 151, 152, 153, 154, 155, 156, 157, 158, 159, 160, 161, 162, 163, 164] rfl
              rw [hge 164] at e0
              clear h hge
              subst hg
              simp only [List.foldl_cons, List.foldl_nil, List.setIfInBounds_toArray, List.set_cons_zero, List.set_cons_succ, e0]
              have HQW := Lib.hid (HQX.out.later ((below_draws V4 1 _).trans hbW))
              rw [← HYeq.out]
              clear HFU HLI HF CE CG CL HMO HXD HYD e0 hbW HQX CX HX0
              go_wp2
              go_roundw
              case rel => exact ⟨k + 1, P2, x, O, _, cx, Ay, cy, by omega, by go_num, rfl, rfl, HQW.out⟩
              case measure => simp [intOf]; omega
            refine ⟨?_, ?_, ?_, ?_, ?_, ?_, ?_, ?_, ?_, ?_, ?_, ?_, ?_, ?_, ?_, ?_, ?_, ?_, ?_, ?_, ?_, ?_, ?_, ?_, ?_, ?_, ?_, ?_, ?_, ?_, ?_, ?_, ?_, ?_, ?_, ?_, ?_, ?_, ?_, ?_, ?_, ?_, ?_, ?_, ?_, ?_, ?_, ?_, ?_, ?_, ?_, ?_, ?_, ?_, ?_, ?_, ?_, ?_, ?_, trivial⟩
            · intro a W hb ho hg
              rw [if_pos (wanted_none rfl)]
              have e : a.eval (.tmp 5) = .pointer (some ⟨bq, 0, none⟩) := ho 5 (rfl)
              exact k_move rfl e rfl
            · intro a W hb ho hg
              rw [if_pos (wanted_none rfl)]
              have e0 : a.eval (.tmp 106) = .pointer (some ⟨bq, 0, none⟩) := hg 0 106 rfl rfl
              exact k_call (f := 26) rfl (by simp only [List.map_toArray, List.map_cons, List.map_nil, e0] <;> rfl) (by go_simp) (PL.len (HF W hb) (i := 0) rfl) (fun e W' h => ⟨_, h.1, h.2, rfl⟩)
            · intro a W hb ho hg
              rw [if_pos (wanted_none rfl)]
              have e : a.eval (.tmp 7) = .slice (some ⟨bx, ox, none⟩) x.length cx := ho 7 (rfl)
              exact k_move rfl e rfl
            · intro a W hb ho hg
              rw [if_pos (wanted_none rfl)]
              have e : a.eval (.tmp 108) = .slice (some ⟨bx, ox, none⟩) x.length cx := hg 2 108 rfl rfl
              exact k_run (r_len rfl e) rfl
            · intro a W hb ho hg
              rw [if_pos (wanted_none rfl)]
              have e : a.eval (.tmp 107) = .int .i64 ((x.length : Nat) : Int) := hg 1 107 rfl rfl
              have f : a.eval (.tmp 109) = .int .i64 ((x.length : Nat) : Int) := hg 3 109 rfl rfl
              exact k_run (r_neI rfl e f) rfl
            · intro a W hb ho hg
              rw [if_pos (wanted_none rfl)]
              have e : a.eval (.tmp 110) = .bool false := hg 4 110 rfl rfl
              exact k_move rfl e rfl
            · intro a W hb ho hg
              have eg : a.eval (.tmp 111) = .bool false := hg 5 111 rfl rfl
              rw [if_pos (wanted_some rfl rfl eg)]
              have e : a.eval (.tmp 16) = .bool true := ho 16 (rfl)
              exact k_move rfl e rfl
            · intro a W hb ho hg
              have eg : a.eval (.tmp 111) = .bool false := hg 5 111 rfl rfl
              rw [if_pos (wanted_some rfl rfl eg)]
              have e : a.eval (.tmp 7) = .slice (some ⟨bx, ox, none⟩) x.length cx := ho 7 (rfl)
              exact k_move rfl e rfl
            · intro a W hb ho hg
              have eg : a.eval (.tmp 111) = .bool false := hg 5 111 rfl rfl
              rw [if_pos (wanted_some rfl rfl eg)]
              have e : a.eval (.tmp 113) = .slice (some ⟨bx, ox, none⟩) x.length cx := hg 7 113 rfl rfl
              exact k_run (r_len rfl e) rfl
            · intro a W hb ho hg
              have eg : a.eval (.tmp 111) = .bool false := hg 5 111 rfl rfl
              rw [if_pos (wanted_some rfl rfl eg)]
              have e : a.eval (.tmp 114) = .int .i64 ((x.length : Nat) : Int) := hg 8 114 rfl rfl
              have f : a.eval (.const (.int .i64 0)) = .int .i64 0 := rfl
              exact k_run (r_gtr rfl e f HXD) rfl
            · intro a W hb ho hg
              have eg : a.eval (.tmp 111) = .bool false := hg 5 111 rfl rfl
              rw [if_pos (wanted_some rfl rfl eg)]
              have e : a.eval (.tmp 112) = .bool true := hg 6 112 rfl rfl
              have f : a.eval (.tmp 115) = .bool true := hg 9 115 rfl rfl
              exact k_run (r_neB rfl e f) rfl
            · intro a W hb ho hg
              rw [if_pos (wanted_none rfl)]
              have e : a.eval (.tmp 111) = .bool false := hg 5 111 rfl rfl
              have f : a.eval (.tmp 116) = .bool false := hg 10 116 rfl rfl
              exact k_pick rfl e (fun h => by cases h) (fun _ => f) rfl
            · intro a W hb ho hg
              rw [if_pos (wanted_none rfl)]
              have e : a.eval (.tmp 117) = .bool false := hg 11 117 rfl rfl
              exact k_move rfl e rfl
            · intro a W hb ho hg
              have eg : a.eval (.tmp 118) = .bool false := hg 12 118 rfl rfl
              rw [if_pos (wanted_some rfl rfl eg)]
              have e : a.eval (.tmp 16) = .bool true := ho 16 (rfl)
              exact k_move rfl e rfl
            · intro a W hb ho hg
              have eg : a.eval (.tmp 118) = .bool false := hg 12 118 rfl rfl
              rw [if_pos (wanted_some rfl rfl eg)]
              have e : a.eval (.tmp 119) = .bool true := hg 13 119 rfl rfl
              exact k_move rfl e rfl
            · intro a W hb ho hg
              have eg : a.eval (.tmp 120) = .bool true := hg 14 120 rfl rfl
              rw [if_pos (wanted_some rfl rfl eg)]
              have e : a.eval (.tmp 15) = .pointer (some ⟨E, 0, none⟩) := ho 15 (rfl)
              obtain ⟨q0, q1, q2⟩ := CE W hb
              exact k_run (r_load rfl e q0 q1 q2) rfl
            · intro a W hb ho hg
              have eg : a.eval (.tmp 120) = .bool true := hg 14 120 rfl rfl
              rw [if_pos (wanted_some rfl rfl eg)]
              have e : a.eval (.tmp 7) = .slice (some ⟨bx, ox, none⟩) x.length cx := ho 7 (rfl)
              exact k_move rfl e rfl
            · intro a W hb ho hg
              have eg : a.eval (.tmp 120) = .bool true := hg 14 120 rfl rfl
              rw [if_pos (wanted_some rfl rfl eg)]
              have e : a.eval (.tmp 122) = .slice (some ⟨bx, ox, none⟩) x.length cx := hg 16 122 rfl rfl
              have f : a.eval (.const (.int .i64 0)) = .int .i64 0 := rfl
              exact k_run (r_idx (k := 0) rfl e f HX0) rfl
            · intro a W hb ho hg
              have eg : a.eval (.tmp 120) = .bool true := hg 14 120 rfl rfl
              rw [if_pos (wanted_some rfl rfl eg)]
              have e : a.eval (.tmp 123) = .pointer (some ⟨bx, ox + 0 * 3, none⟩) := hg 17 123 rfl rfl
              obtain ⟨q0, q1, q2⟩ := CX W hb
              exact k_run (r_loadO rfl e q0 q1 q2) rfl
            · intro a W hb ho hg
              have eg : a.eval (.tmp 120) = .bool true := hg 14 120 rfl rfl
              rw [if_pos (wanted_some rfl rfl eg)]
              have e : a.eval (.tmp 121) = sptV ((x1, x2), x3) := hg 15 121 rfl rfl
              have f : a.eval (.tmp 124) = sptV ((x1, x2), x3) := hg 18 124 rfl rfl
              exact k_run (r_neS rfl e f) rfl
            · intro a W hb ho hg
              have eg : a.eval (.tmp 118) = .bool false := hg 12 118 rfl rfl
              rw [if_pos (wanted_some rfl rfl eg)]
              have e : a.eval (.tmp 120) = .bool true := hg 14 120 rfl rfl
              have f : a.eval (.tmp 125) = .bool false := hg 19 125 rfl rfl
              exact k_pick rfl e (fun _ => f) (fun h => by cases h) rfl
            · intro a W hb ho hg
              rw [if_pos (wanted_none rfl)]
              have e : a.eval (.tmp 118) = .bool false := hg 12 118 rfl rfl
              have f : a.eval (.tmp 126) = .bool false := hg 20 126 rfl rfl
              exact k_pick rfl e (fun h => by cases h) (fun _ => f) rfl
            · intro a W hb ho hg
              rw [if_pos (wanted_none rfl)]
              have e : a.eval (.tmp 127) = .bool false := hg 21 127 rfl rfl
              exact k_move rfl e rfl
            · intro a W hb ho hg
              have eg : a.eval (.tmp 128) = .bool false := hg 22 128 rfl rfl
              rw [if_pos (wanted_some rfl rfl eg)]
              have e : a.eval (.tmp 18) = .bool false := ho 18 (rfl)
              exact k_move rfl e rfl
            · intro a W hb ho hg
              have eg : a.eval (.tmp 128) = .bool false := hg 22 128 rfl rfl
              rw [if_pos (wanted_some rfl rfl eg)]
              have e : a.eval (.tmp 8) = .slice (Ay) Y.length cy := ho 8 (rfl)
              exact k_move rfl e rfl
            · intro a W hb ho hg
              have eg : a.eval (.tmp 128) = .bool false := hg 22 128 rfl rfl
              rw [if_pos (wanted_some rfl rfl eg)]
              have e : a.eval (.tmp 130) = .slice (Ay) Y.length cy := hg 24 130 rfl rfl
              exact k_run (r_len rfl e) rfl
            · intro a W hb ho hg
              have eg : a.eval (.tmp 128) = .bool false := hg 22 128 rfl rfl
              rw [if_pos (wanted_some rfl rfl eg)]
              have e : a.eval (.tmp 131) = .int .i64 ((Y.length : Nat) : Int) := hg 25 131 rfl rfl
              have f : a.eval (.const (.int .i64 0)) = .int .i64 0 := rfl
              exact k_run (r_gtr rfl e f HYD) rfl
            · intro a W hb ho hg
              have eg : a.eval (.tmp 128) = .bool false := hg 22 128 rfl rfl
              rw [if_pos (wanted_some rfl rfl eg)]
              have e : a.eval (.tmp 129) = .bool false := hg 23 129 rfl rfl
              have f : a.eval (.tmp 132) = .bool false := hg 26 132 rfl rfl
              exact k_run (r_neB rfl e f) rfl
            · intro a W hb ho hg
              rw [if_pos (wanted_none rfl)]
              have e : a.eval (.tmp 128) = .bool false := hg 22 128 rfl rfl
              have f : a.eval (.tmp 133) = .bool false := hg 27 133 rfl rfl
              exact k_pick rfl e (fun h => by cases h) (fun _ => f) rfl
            · intro a W hb ho hg
              rw [if_pos (wanted_none rfl)]
              have e : a.eval (.tmp 134) = .bool false := hg 28 134 rfl rfl
              exact k_move rfl e rfl
            · intro a W hb ho hg
              have eg : a.eval (.tmp 135) = .bool false := hg 29 135 rfl rfl
              rw [if_pos (wanted_some rfl rfl eg)]
              have e : a.eval (.tmp 18) = .bool false := ho 18 (rfl)
              exact k_move rfl e rfl
            · intro a W hb ho hg
              have eg : a.eval (.tmp 135) = .bool false := hg 29 135 rfl rfl
              rw [if_pos (wanted_some rfl rfl eg)]
              have e : a.eval (.tmp 136) = .bool false := hg 30 136 rfl rfl
              exact k_move rfl e rfl
            · intro a W hb ho hg
              have eg : a.eval (.tmp 137) = .bool false := hg 31 137 rfl rfl
              rw [if_neg (wanted_not rfl rfl eg)]
              rfl
            · intro a W hb ho hg
              have eg : a.eval (.tmp 137) = .bool false := hg 31 137 rfl rfl
              rw [if_neg (wanted_not rfl rfl eg)]
              rfl
            · intro a W hb ho hg
              have eg : a.eval (.tmp 137) = .bool false := hg 31 137 rfl rfl
              rw [if_neg (wanted_not rfl rfl eg)]
              rfl
            · intro a W hb ho hg
              have eg : a.eval (.tmp 137) = .bool false := hg 31 137 rfl rfl
              rw [if_neg (wanted_not rfl rfl eg)]
              rfl
            · intro a W hb ho hg
              have eg : a.eval (.tmp 137) = .bool false := hg 31 137 rfl rfl
              rw [if_neg (wanted_not rfl rfl eg)]
              rfl
            · intro a W hb ho hg
              have eg : a.eval (.tmp 137) = .bool false := hg 31 137 rfl rfl
              rw [if_neg (wanted_not rfl rfl eg)]
              rfl
            · intro a W hb ho hg
              have eg : a.eval (.tmp 137) = .bool false := hg 31 137 rfl rfl
              rw [if_neg (wanted_not rfl rfl eg)]
              rfl
            · intro a W hb ho hg
              have eg : a.eval (.tmp 137) = .bool false := hg 31 137 rfl rfl
              rw [if_neg (wanted_not rfl rfl eg)]
              rfl
            · intro a W hb ho hg
              have eg : a.eval (.tmp 135) = .bool false := hg 29 135 rfl rfl
              rw [if_pos (wanted_some rfl rfl eg)]
              have e : a.eval (.tmp 137) = .bool false := hg 31 137 rfl rfl
              have f : a.eval (.const (.bool false)) = .bool false := rfl
              exact k_pick rfl e (fun h => by cases h) (fun _ => f) rfl
            · intro a W hb ho hg
              rw [if_pos (wanted_none rfl)]
              have e : a.eval (.tmp 135) = .bool false := hg 29 135 rfl rfl
              have f : a.eval (.tmp 146) = .bool false := hg 40 146 rfl rfl
              exact k_pick rfl e (fun h => by cases h) (fun _ => f) rfl
            · intro a W hb ho hg
              rw [if_pos (wanted_none rfl)]
              have e : a.eval (.tmp 147) = .bool false := hg 41 147 rfl rfl
              exact k_move rfl e rfl
            · intro a W hb ho hg
              have eg : a.eval (.tmp 148) = .bool false := hg 42 148 rfl rfl
              rw [if_pos (wanted_some rfl rfl eg)]
              have e : a.eval (.tmp 6) = .pointer (some ⟨bl, 0, none⟩) := ho 6 (rfl)
              exact k_move rfl e rfl
            · intro a W hb ho hg
              have eg : a.eval (.tmp 148) = .bool false := hg 42 148 rfl rfl
              rw [if_pos (wanted_some rfl rfl eg)]
              have e0 : a.eval (.tmp 149) = .pointer (some ⟨bl, 0, none⟩) := hg 43 149 rfl rfl
              exact k_call (f := 27) rfl (by simp only [List.map_toArray, List.map_cons, List.map_nil, e0] <;> rfl) (by go_simp) (HFU W hb) (fun e W' h => ⟨_, h.1, h.2, rfl⟩)
            · intro a W hb ho hg
              have eg : a.eval (.tmp 148) = .bool false := hg 42 148 rfl rfl
              rw [if_pos (wanted_some rfl rfl eg)]
              have e : a.eval (.tmp 8) = .slice (Ay) Y.length cy := ho 8 (rfl)
              exact k_move rfl e rfl
            · intro a W hb ho hg
              have eg : a.eval (.tmp 148) = .bool false := hg 42 148 rfl rfl
              rw [if_pos (wanted_some rfl rfl eg)]
              have e : a.eval (.tmp 151) = .slice (Ay) Y.length cy := hg 45 151 rfl rfl
              exact k_run (r_len rfl e) rfl
            · intro a W hb ho hg
              have eg : a.eval (.tmp 148) = .bool false := hg 42 148 rfl rfl
              rw [if_pos (wanted_some rfl rfl eg)]
              have e : a.eval (.tmp 0) = .int .i64 most := ho 0 (rfl)
              exact k_move rfl e rfl
            · intro a W hb ho hg
              have eg : a.eval (.tmp 148) = .bool false := hg 42 148 rfl rfl
              rw [if_pos (wanted_some rfl rfl eg)]
              have e0 : a.eval (.tmp 153) = .int .i64 most := hg 47 153 rfl rfl
              exact k_call (f := 28) rfl (by simp only [List.map_toArray, List.map_cons, List.map_nil, e0] <;> rfl) (by go_simp) (HMO W) (fun e W' h => ⟨_, h.1, h.2, rfl⟩)
            · intro a W hb ho hg
              have eg : a.eval (.tmp 148) = .bool false := hg 42 148 rfl rfl
              rw [if_pos (wanted_some rfl rfl eg)]
              have e : a.eval (.tmp 152) = .int .i64 ((Y.length : Nat) : Int) := hg 46 152 rfl rfl
              have f : a.eval (.tmp 154) = .int .i64 ((m : Nat) : Int) := hg 48 154 rfl rfl
              exact k_run (r_eqI rfl e f) rfl
            · intro a W hb ho hg
              have eg : a.eval (.tmp 148) = .bool false := hg 42 148 rfl rfl
              rw [if_pos (wanted_some rfl rfl eg)]
              have e : a.eval (.tmp 150) = .bool ((((Y.length : Nat) : Int) : Int) == (((m : Nat) : Int) : Int)) := hg 44 150 rfl rfl
              have f : a.eval (.tmp 155) = .bool ((((Y.length : Nat) : Int) : Int) == (((m : Nat) : Int) : Int)) := hg 49 155 rfl rfl
              exact k_run (r_neB rfl e f) rfl
            · intro a W hb ho hg
              rw [if_pos (wanted_none rfl)]
              have e : a.eval (.tmp 148) = .bool false := hg 42 148 rfl rfl
              have f : a.eval (.tmp 156) = .bool false := hg 50 156 rfl rfl
              exact k_pick rfl e (fun h => by cases h) (fun _ => f) rfl
            · intro a W hb ho hg
              rw [if_pos (wanted_none rfl)]
              have e : a.eval (.tmp 157) = .bool false := hg 51 157 rfl rfl
              exact k_move rfl e rfl
            · intro a W hb ho hg
              have eg : a.eval (.tmp 158) = .bool false := hg 52 158 rfl rfl
              rw [if_pos (wanted_some rfl rfl eg)]
              have e : a.eval (.tmp 6) = .pointer (some ⟨bl, 0, none⟩) := ho 6 (rfl)
              exact k_move rfl e rfl
            · intro a W hb ho hg
              have eg : a.eval (.tmp 158) = .bool false := hg 52 158 rfl rfl
              rw [if_pos (wanted_some rfl rfl eg)]
              have e0 : a.eval (.tmp 159) = .pointer (some ⟨bl, 0, none⟩) := hg 53 159 rfl rfl
              exact k_call (f := 30) rfl (by simp only [List.map_toArray, List.map_cons, List.map_nil, e0] <;> rfl) (by go_simp) (HLI W hb) (fun e W' ⟨A, c, he, hr, _, _, hb'⟩ => ⟨_, he, hb', A, c, rfl, hr⟩)
            · intro a W hb ho hg
              have eg : a.eval (.tmp 158) = .bool false := hg 52 158 rfl rfl
              rw [if_pos (wanted_some rfl rfl eg)]
              have e : a.eval (.tmp 8) = .slice (Ay) Y.length cy := ho 8 (rfl)
              exact k_move rfl e rfl
            · intro a W hb ho hg
              have eg : a.eval (.tmp 158) = .bool false := hg 52 158 rfl rfl
              rw [if_pos (wanted_some rfl rfl eg)]
              obtain ⟨Ae0, ce0, e0, re0⟩ := (show ∃ A k, a.eval (.tmp 160) = .slice A Y.length k ∧ RdS W W.heap.size A Y from hg 54 160 rfl rfl)
              have e1 : a.eval (.tmp 161) = .slice (Ay) Y.length cy := hg 55 161 rfl rfl
              exact k_call (f := 29) rfl (by simp only [List.map_toArray, List.map_cons, List.map_nil, e0, e1] <;> rfl) (by go_simp) (PL.same re0 (CL W hb) hYL) (fun e W' h => ⟨_, h.1, h.2, rfl⟩)
            · intro a W hb ho hg
              have eg : a.eval (.tmp 158) = .bool false := hg 52 158 rfl rfl
              rw [if_pos (wanted_some rfl rfl eg)]
              have e : a.eval (.tmp 162) = .bool true := hg 56 162 rfl rfl
              exact k_not rfl e rfl
            · intro a W hb ho hg
              rw [if_pos (wanted_none rfl)]
              have e : a.eval (.tmp 158) = .bool false := hg 52 158 rfl rfl
              have f : a.eval (.tmp 163) = .bool false := hg 57 163 rfl rfl
              exact k_pick rfl e (fun h => by cases h) (fun _ => f) rfl
          · have HXD : decide ((0 : Int) < ((x.length : Nat) : Int)) = false := decide_eq_false (by omega)
            have HYD : decide ((0 : Int) < ((Y.length : Nat) : Int)) = true := decide_eq_true (by omega)
            rw [decide_eq_false hx0, decide_eq_true hy0]
            obtain ⟨j, hj⟩ : ∃ j, Y.length - 1 = j := ⟨_, rfl⟩
            have HJL : j < Y.length := by omega
            obtain ⟨by_, oy, hAy, hby, f0, f1, f2⟩ := HRY j _ (List.getElem?_eq_getElem HJL)
            subst hAy
            have hyj : spAt Y j = ((y1, y2), y3) := by rw [if_pos hy0, hj] at HYY; exact HYY
            rw [← spAt_get HJL, hyj] at f0 f1 f2
            have CY : ∀ W, Below V4.drew.heap.size V4.drew W → W.cell? ⟨by_, oy + j * 3, none⟩ = some (.int .u64 y1) ∧ W.cell? ⟨by_, oy + j * 3 + 1, none⟩ = some (.int .u64 y2) ∧ W.cell? ⟨by_, oy + j * 3 + 2, none⟩ = some (.int .i64 y3) := fun W hb => ⟨(hb.cell (p := ⟨by_, oy + j * 3, none⟩) hby).trans f0, (hb.cell (p := ⟨by_, oy + j * 3 + 1, none⟩) hby).trans f1, (hb.cell (p := ⟨by_, oy + j * 3 + 2, none⟩) hby).trans f2⟩
            have HJS : IntKind.i64.wrap (((Y.length : Nat) : Int) - 1) = ((j : Nat) : Int) := by rw [IntWalk.i64_in _ (by omega)]; omega
            clear f0 f1 f2 HRY
            refine region_held 167 mixed rfl (VD (qpDs01 bq bl m most x1 x2 x3 y1 y2 y3 E G 0 0 by_ oy j cx cy Ax none x Y)) (VD_later _) (by kernel_rfl) ?_ ?_
            rotate_left 1
            · intro a' W h
              have e0 : a'.eval (.tmp 164) = .bool false := h.at_ 58 164 rfl
              have hbW : Below V4.drew.heap.size V4.drew W := h.hb
              obtain ⟨g, hg, hge⟩ := h.frame [106, 107, 108, 109, 110, 111, 112, 113, 114, 115, 116, 117, 118, 119, 120, 121, 122, 123, 124, 125, 126, 127, 128, 129, 130, 131, 132, 133, 134, 135, 136, 137, 138, 139, 140, 141, 142, 143, 144, 145, 146, 147, 148, 149, 150, 151, 152, 153, 154, 155, 156, 157, 158, 159, 160, 161, 162, 163, 164] rfl
              rw [hge 164] at e0
              clear h hge
              subst hg
              simp only [List.foldl_cons, List.foldl_nil, List.setIfInBounds_toArray, List.set_cons_zero, List.set_cons_succ, e0]
              have HQW := Lib.hid (HQX.out.later ((below_draws V4 1 _).trans hbW))
              rw [← HYeq.out]
              clear HFU HLI HF CE CG CL HMO HXD HYD e0 hbW HQX CY HJS
              go_wp2
              go_roundw
              case rel => exact ⟨k + 1, P2, x, O, Ax, cx, _, cy, by omega, by go_num, rfl, rfl, HQW.out⟩
              case measure => simp [intOf]; omega
            refine ⟨?_, ?_, ?_, ?_, ?_, ?_, ?_, ?_, ?_, ?_, ?_, ?_, ?_, ?_, ?_, ?_, ?_, ?_, ?_, ?_, ?_, ?_, ?_, ?_, ?_, ?_, ?_, ?_, ?_, ?_, ?_, ?_, ?_, ?_, ?_, ?_, ?_, ?_, ?_, ?_, ?_, ?_, ?_, ?_, ?_, ?_, ?_, ?_, ?_, ?_, ?_, ?_, ?_, ?_, ?_, ?_, ?_, ?_, ?_, trivial⟩
            · intro a W hb ho hg
              rw [if_pos (wanted_none rfl)]
              have e : a.eval (.tmp 5) = .pointer (some ⟨bq, 0, none⟩) := ho 5 (rfl)
              exact k_move rfl e rfl
            · intro a W hb ho hg
              rw [if_pos (wanted_none rfl)]
              have e0 : a.eval (.tmp 106) = .pointer (some ⟨bq, 0, none⟩) := hg 0 106 rfl rfl
              exact k_call (f := 26) rfl (by simp only [List.map_toArray, List.map_cons, List.map_nil, e0] <;> rfl) (by go_simp) (PL.len (HF W hb) (i := 0) rfl) (fun e W' h => ⟨_, h.1, h.2, rfl⟩)
            · intro a W hb ho hg
              rw [if_pos (wanted_none rfl)]
              have e : a.eval (.tmp 7) = .slice (Ax) x.length cx := ho 7 (rfl)
              exact k_move rfl e rfl
            · intro a W hb ho hg
              rw [if_pos (wanted_none rfl)]
              have e : a.eval (.tmp 108) = .slice (Ax) x.length cx := hg 2 108 rfl rfl
              exact k_run (r_len rfl e) rfl
            · intro a W hb ho hg
              rw [if_pos (wanted_none rfl)]
              have e : a.eval (.tmp 107) = .int .i64 ((x.length : Nat) : Int) := hg 1 107 rfl rfl
              have f : a.eval (.tmp 109) = .int .i64 ((x.length : Nat) : Int) := hg 3 109 rfl rfl
              exact k_run (r_neI rfl e f) rfl
            · intro a W hb ho hg
              rw [if_pos (wanted_none rfl)]
              have e : a.eval (.tmp 110) = .bool false := hg 4 110 rfl rfl
              exact k_move rfl e rfl
            · intro a W hb ho hg
              have eg : a.eval (.tmp 111) = .bool false := hg 5 111 rfl rfl
              rw [if_pos (wanted_some rfl rfl eg)]
              have e : a.eval (.tmp 16) = .bool false := ho 16 (rfl)
              exact k_move rfl e rfl
            · intro a W hb ho hg
              have eg : a.eval (.tmp 111) = .bool false := hg 5 111 rfl rfl
              rw [if_pos (wanted_some rfl rfl eg)]
              have e : a.eval (.tmp 7) = .slice (Ax) x.length cx := ho 7 (rfl)
              exact k_move rfl e rfl
            · intro a W hb ho hg
              have eg : a.eval (.tmp 111) = .bool false := hg 5 111 rfl rfl
              rw [if_pos (wanted_some rfl rfl eg)]
              have e : a.eval (.tmp 113) = .slice (Ax) x.length cx := hg 7 113 rfl rfl
              exact k_run (r_len rfl e) rfl
            · intro a W hb ho hg
              have eg : a.eval (.tmp 111) = .bool false := hg 5 111 rfl rfl
              rw [if_pos (wanted_some rfl rfl eg)]
              have e : a.eval (.tmp 114) = .int .i64 ((x.length : Nat) : Int) := hg 8 114 rfl rfl
              have f : a.eval (.const (.int .i64 0)) = .int .i64 0 := rfl
              exact k_run (r_gtr rfl e f HXD) rfl
            · intro a W hb ho hg
              have eg : a.eval (.tmp 111) = .bool false := hg 5 111 rfl rfl
              rw [if_pos (wanted_some rfl rfl eg)]
              have e : a.eval (.tmp 112) = .bool false := hg 6 112 rfl rfl
              have f : a.eval (.tmp 115) = .bool false := hg 9 115 rfl rfl
              exact k_run (r_neB rfl e f) rfl
            · intro a W hb ho hg
              rw [if_pos (wanted_none rfl)]
              have e : a.eval (.tmp 111) = .bool false := hg 5 111 rfl rfl
              have f : a.eval (.tmp 116) = .bool false := hg 10 116 rfl rfl
              exact k_pick rfl e (fun h => by cases h) (fun _ => f) rfl
            · intro a W hb ho hg
              rw [if_pos (wanted_none rfl)]
              have e : a.eval (.tmp 117) = .bool false := hg 11 117 rfl rfl
              exact k_move rfl e rfl
            · intro a W hb ho hg
              have eg : a.eval (.tmp 118) = .bool false := hg 12 118 rfl rfl
              rw [if_pos (wanted_some rfl rfl eg)]
              have e : a.eval (.tmp 16) = .bool false := ho 16 (rfl)
              exact k_move rfl e rfl
            · intro a W hb ho hg
              have eg : a.eval (.tmp 118) = .bool false := hg 12 118 rfl rfl
              rw [if_pos (wanted_some rfl rfl eg)]
              have e : a.eval (.tmp 119) = .bool false := hg 13 119 rfl rfl
              exact k_move rfl e rfl
            · intro a W hb ho hg
              have eg : a.eval (.tmp 120) = .bool false := hg 14 120 rfl rfl
              rw [if_neg (wanted_not rfl rfl eg)]
              rfl
            · intro a W hb ho hg
              have eg : a.eval (.tmp 120) = .bool false := hg 14 120 rfl rfl
              rw [if_neg (wanted_not rfl rfl eg)]
              rfl
            · intro a W hb ho hg
              have eg : a.eval (.tmp 120) = .bool false := hg 14 120 rfl rfl
              rw [if_neg (wanted_not rfl rfl eg)]
              rfl
            · intro a W hb ho hg
              have eg : a.eval (.tmp 120) = .bool false := hg 14 120 rfl rfl
              rw [if_neg (wanted_not rfl rfl eg)]
              rfl
            · intro a W hb ho hg
              have eg : a.eval (.tmp 120) = .bool false := hg 14 120 rfl rfl
              rw [if_neg (wanted_not rfl rfl eg)]
              rfl
            · intro a W hb ho hg
              have eg : a.eval (.tmp 118) = .bool false := hg 12 118 rfl rfl
              rw [if_pos (wanted_some rfl rfl eg)]
              have e : a.eval (.tmp 120) = .bool false := hg 14 120 rfl rfl
              have f : a.eval (.const (.bool false)) = .bool false := rfl
              exact k_pick rfl e (fun h => by cases h) (fun _ => f) rfl
            · intro a W hb ho hg
              rw [if_pos (wanted_none rfl)]
              have e : a.eval (.tmp 118) = .bool false := hg 12 118 rfl rfl
              have f : a.eval (.tmp 126) = .bool false := hg 20 126 rfl rfl
              exact k_pick rfl e (fun h => by cases h) (fun _ => f) rfl
            · intro a W hb ho hg
              rw [if_pos (wanted_none rfl)]
              have e : a.eval (.tmp 127) = .bool false := hg 21 127 rfl rfl
              exact k_move rfl e rfl
            · intro a W hb ho hg
              have eg : a.eval (.tmp 128) = .bool false := hg 22 128 rfl rfl
              rw [if_pos (wanted_some rfl rfl eg)]
              have e : a.eval (.tmp 18) = .bool true := ho 18 (rfl)
              exact k_move rfl e rfl
            · intro a W hb ho hg
              have eg : a.eval (.tmp 128) = .bool false := hg 22 128 rfl rfl
              rw [if_pos (wanted_some rfl rfl eg)]
              have e : a.eval (.tmp 8) = .slice (some ⟨by_, oy, none⟩) Y.length cy := ho 8 (rfl)
              exact k_move rfl e rfl
            · intro a W hb ho hg
              have eg : a.eval (.tmp 128) = .bool false := hg 22 128 rfl rfl
              rw [if_pos (wanted_some rfl rfl eg)]
              have e : a.eval (.tmp 130) = .slice (some ⟨by_, oy, none⟩) Y.length cy := hg 24 130 rfl rfl
              exact k_run (r_len rfl e) rfl
            · intro a W hb ho hg
              have eg : a.eval (.tmp 128) = .bool false := hg 22 128 rfl rfl
              rw [if_pos (wanted_some rfl rfl eg)]
              have e : a.eval (.tmp 131) = .int .i64 ((Y.length : Nat) : Int) := hg 25 131 rfl rfl
              have f : a.eval (.const (.int .i64 0)) = .int .i64 0 := rfl
              exact k_run (r_gtr rfl e f HYD) rfl
            · intro a W hb ho hg
              have eg : a.eval (.tmp 128) = .bool false := hg 22 128 rfl rfl
              rw [if_pos (wanted_some rfl rfl eg)]
              have e : a.eval (.tmp 129) = .bool true := hg 23 129 rfl rfl
              have f : a.eval (.tmp 132) = .bool true := hg 26 132 rfl rfl
              exact k_run (r_neB rfl e f) rfl
            · intro a W hb ho hg
              rw [if_pos (wanted_none rfl)]
              have e : a.eval (.tmp 128) = .bool false := hg 22 128 rfl rfl
              have f : a.eval (.tmp 133) = .bool false := hg 27 133 rfl rfl
              exact k_pick rfl e (fun h => by cases h) (fun _ => f) rfl
            · intro a W hb ho hg
              rw [if_pos (wanted_none rfl)]
              have e : a.eval (.tmp 134) = .bool false := hg 28 134 rfl rfl
              exact k_move rfl e rfl
            · intro a W hb ho hg
              have eg : a.eval (.tmp 135) = .bool false := hg 29 135 rfl rfl
              rw [if_pos (wanted_some rfl rfl eg)]
              have e : a.eval (.tmp 18) = .bool true := ho 18 (rfl)
              exact k_move rfl e rfl
            · intro a W hb ho hg
              have eg : a.eval (.tmp 135) = .bool false := hg 29 135 rfl rfl
              rw [if_pos (wanted_some rfl rfl eg)]
              have e : a.eval (.tmp 136) = .bool true := hg 30 136 rfl rfl
              exact k_move rfl e rfl
            · intro a W hb ho hg
              have eg : a.eval (.tmp 137) = .bool true := hg 31 137 rfl rfl
              rw [if_pos (wanted_some rfl rfl eg)]
              have e : a.eval (.tmp 17) = .pointer (some ⟨G, 0, none⟩) := ho 17 (rfl)
              obtain ⟨q0, q1, q2⟩ := CG W hb
              exact k_run (r_load rfl e q0 q1 q2) rfl
            · intro a W hb ho hg
              have eg : a.eval (.tmp 137) = .bool true := hg 31 137 rfl rfl
              rw [if_pos (wanted_some rfl rfl eg)]
              have e : a.eval (.tmp 8) = .slice (some ⟨by_, oy, none⟩) Y.length cy := ho 8 (rfl)
              exact k_move rfl e rfl
            · intro a W hb ho hg
              have eg : a.eval (.tmp 137) = .bool true := hg 31 137 rfl rfl
              rw [if_pos (wanted_some rfl rfl eg)]
              have e : a.eval (.tmp 8) = .slice (some ⟨by_, oy, none⟩) Y.length cy := ho 8 (rfl)
              exact k_move rfl e rfl
            · intro a W hb ho hg
              have eg : a.eval (.tmp 137) = .bool true := hg 31 137 rfl rfl
              rw [if_pos (wanted_some rfl rfl eg)]
              have e : a.eval (.tmp 140) = .slice (some ⟨by_, oy, none⟩) Y.length cy := hg 34 140 rfl rfl
              exact k_run (r_len rfl e) rfl
            · intro a W hb ho hg
              have eg : a.eval (.tmp 137) = .bool true := hg 31 137 rfl rfl
              rw [if_pos (wanted_some rfl rfl eg)]
              have e : a.eval (.tmp 141) = .int .i64 ((Y.length : Nat) : Int) := hg 35 141 rfl rfl
              have f : a.eval (.const (.int .i64 1)) = .int .i64 1 := rfl
              exact k_run (r_sub rfl e f HJS) rfl
            · intro a W hb ho hg
              have eg : a.eval (.tmp 137) = .bool true := hg 31 137 rfl rfl
              rw [if_pos (wanted_some rfl rfl eg)]
              have e : a.eval (.tmp 139) = .slice (some ⟨by_, oy, none⟩) Y.length cy := hg 33 139 rfl rfl
              have f : a.eval (.tmp 142) = .int .i64 ((j : Nat) : Int) := hg 36 142 rfl rfl
              exact k_run (r_idx (k := j) rfl e f HJL) rfl
            · intro a W hb ho hg
              have eg : a.eval (.tmp 137) = .bool true := hg 31 137 rfl rfl
              rw [if_pos (wanted_some rfl rfl eg)]
              have e : a.eval (.tmp 143) = .pointer (some ⟨by_, oy + j * 3, none⟩) := hg 37 143 rfl rfl
              obtain ⟨q0, q1, q2⟩ := CY W hb
              exact k_run (r_loadO rfl e q0 q1 q2) rfl
            · intro a W hb ho hg
              have eg : a.eval (.tmp 137) = .bool true := hg 31 137 rfl rfl
              rw [if_pos (wanted_some rfl rfl eg)]
              have e : a.eval (.tmp 138) = sptV ((y1, y2), y3) := hg 32 138 rfl rfl
              have f : a.eval (.tmp 144) = sptV ((y1, y2), y3) := hg 38 144 rfl rfl
              exact k_run (r_neS rfl e f) rfl
            · intro a W hb ho hg
              have eg : a.eval (.tmp 135) = .bool false := hg 29 135 rfl rfl
              rw [if_pos (wanted_some rfl rfl eg)]
              have e : a.eval (.tmp 137) = .bool true := hg 31 137 rfl rfl
              have f : a.eval (.tmp 145) = .bool false := hg 39 145 rfl rfl
              exact k_pick rfl e (fun _ => f) (fun h => by cases h) rfl
            · intro a W hb ho hg
              rw [if_pos (wanted_none rfl)]
              have e : a.eval (.tmp 135) = .bool false := hg 29 135 rfl rfl
              have f : a.eval (.tmp 146) = .bool false := hg 40 146 rfl rfl
              exact k_pick rfl e (fun h => by cases h) (fun _ => f) rfl
            · intro a W hb ho hg
              rw [if_pos (wanted_none rfl)]
              have e : a.eval (.tmp 147) = .bool false := hg 41 147 rfl rfl
              exact k_move rfl e rfl
            · intro a W hb ho hg
              have eg : a.eval (.tmp 148) = .bool false := hg 42 148 rfl rfl
              rw [if_pos (wanted_some rfl rfl eg)]
              have e : a.eval (.tmp 6) = .pointer (some ⟨bl, 0, none⟩) := ho 6 (rfl)
              exact k_move rfl e rfl
            · intro a W hb ho hg
              have eg : a.eval (.tmp 148) = .bool false := hg 42 148 rfl rfl
              rw [if_pos (wanted_some rfl rfl eg)]
              have e0 : a.eval (.tmp 149) = .pointer (some ⟨bl, 0, none⟩) := hg 43 149 rfl rfl
              exact k_call (f := 27) rfl (by simp only [List.map_toArray, List.map_cons, List.map_nil, e0] <;> rfl) (by go_simp) (HFU W hb) (fun e W' h => ⟨_, h.1, h.2, rfl⟩)
            · intro a W hb ho hg
              have eg : a.eval (.tmp 148) = .bool false := hg 42 148 rfl rfl
              rw [if_pos (wanted_some rfl rfl eg)]
              have e : a.eval (.tmp 8) = .slice (some ⟨by_, oy, none⟩) Y.length cy := ho 8 (rfl)
              exact k_move rfl e rfl
            · intro a W hb ho hg
              have eg : a.eval (.tmp 148) = .bool false := hg 42 148 rfl rfl
              rw [if_pos (wanted_some rfl rfl eg)]
              have e : a.eval (.tmp 151) = .slice (some ⟨by_, oy, none⟩) Y.length cy := hg 45 151 rfl rfl
              exact k_run (r_len rfl e) rfl
            · intro a W hb ho hg
              have eg : a.eval (.tmp 148) = .bool false := hg 42 148 rfl rfl
              rw [if_pos (wanted_some rfl rfl eg)]
              have e : a.eval (.tmp 0) = .int .i64 most := ho 0 (rfl)
              exact k_move rfl e rfl
            · intro a W hb ho hg
              have eg : a.eval (.tmp 148) = .bool false := hg 42 148 rfl rfl
              rw [if_pos (wanted_some rfl rfl eg)]
              have e0 : a.eval (.tmp 153) = .int .i64 most := hg 47 153 rfl rfl
              exact k_call (f := 28) rfl (by simp only [List.map_toArray, List.map_cons, List.map_nil, e0] <;> rfl) (by go_simp) (HMO W) (fun e W' h => ⟨_, h.1, h.2, rfl⟩)
            · intro a W hb ho hg
              have eg : a.eval (.tmp 148) = .bool false := hg 42 148 rfl rfl
              rw [if_pos (wanted_some rfl rfl eg)]
              have e : a.eval (.tmp 152) = .int .i64 ((Y.length : Nat) : Int) := hg 46 152 rfl rfl
              have f : a.eval (.tmp 154) = .int .i64 ((m : Nat) : Int) := hg 48 154 rfl rfl
              exact k_run (r_eqI rfl e f) rfl
            · intro a W hb ho hg
              have eg : a.eval (.tmp 148) = .bool false := hg 42 148 rfl rfl
              rw [if_pos (wanted_some rfl rfl eg)]
              have e : a.eval (.tmp 150) = .bool ((((Y.length : Nat) : Int) : Int) == (((m : Nat) : Int) : Int)) := hg 44 150 rfl rfl
              have f : a.eval (.tmp 155) = .bool ((((Y.length : Nat) : Int) : Int) == (((m : Nat) : Int) : Int)) := hg 49 155 rfl rfl
              exact k_run (r_neB rfl e f) rfl
            · intro a W hb ho hg
              rw [if_pos (wanted_none rfl)]
              have e : a.eval (.tmp 148) = .bool false := hg 42 148 rfl rfl
              have f : a.eval (.tmp 156) = .bool false := hg 50 156 rfl rfl
              exact k_pick rfl e (fun h => by cases h) (fun _ => f) rfl
            · intro a W hb ho hg
              rw [if_pos (wanted_none rfl)]
              have e : a.eval (.tmp 157) = .bool false := hg 51 157 rfl rfl
              exact k_move rfl e rfl
            · intro a W hb ho hg
              have eg : a.eval (.tmp 158) = .bool false := hg 52 158 rfl rfl
              rw [if_pos (wanted_some rfl rfl eg)]
              have e : a.eval (.tmp 6) = .pointer (some ⟨bl, 0, none⟩) := ho 6 (rfl)
              exact k_move rfl e rfl
            · intro a W hb ho hg
              have eg : a.eval (.tmp 158) = .bool false := hg 52 158 rfl rfl
              rw [if_pos (wanted_some rfl rfl eg)]
              have e0 : a.eval (.tmp 159) = .pointer (some ⟨bl, 0, none⟩) := hg 53 159 rfl rfl
              exact k_call (f := 30) rfl (by simp only [List.map_toArray, List.map_cons, List.map_nil, e0] <;> rfl) (by go_simp) (HLI W hb) (fun e W' ⟨A, c, he, hr, _, _, hb'⟩ => ⟨_, he, hb', A, c, rfl, hr⟩)
            · intro a W hb ho hg
              have eg : a.eval (.tmp 158) = .bool false := hg 52 158 rfl rfl
              rw [if_pos (wanted_some rfl rfl eg)]
              have e : a.eval (.tmp 8) = .slice (some ⟨by_, oy, none⟩) Y.length cy := ho 8 (rfl)
              exact k_move rfl e rfl
            · intro a W hb ho hg
              have eg : a.eval (.tmp 158) = .bool false := hg 52 158 rfl rfl
              rw [if_pos (wanted_some rfl rfl eg)]
              obtain ⟨Ae0, ce0, e0, re0⟩ := (show ∃ A k, a.eval (.tmp 160) = .slice A Y.length k ∧ RdS W W.heap.size A Y from hg 54 160 rfl rfl)
              have e1 : a.eval (.tmp 161) = .slice (some ⟨by_, oy, none⟩) Y.length cy := hg 55 161 rfl rfl
              exact k_call (f := 29) rfl (by simp only [List.map_toArray, List.map_cons, List.map_nil, e0, e1] <;> rfl) (by go_simp) (PL.same re0 (CL W hb) hYL) (fun e W' h => ⟨_, h.1, h.2, rfl⟩)
            · intro a W hb ho hg
              have eg : a.eval (.tmp 158) = .bool false := hg 52 158 rfl rfl
              rw [if_pos (wanted_some rfl rfl eg)]
              have e : a.eval (.tmp 162) = .bool true := hg 56 162 rfl rfl
              exact k_not rfl e rfl
            · intro a W hb ho hg
              rw [if_pos (wanted_none rfl)]
              have e : a.eval (.tmp 158) = .bool false := hg 52 158 rfl rfl
              have f : a.eval (.tmp 163) = .bool false := hg 57 163 rfl rfl
              exact k_pick rfl e (fun h => by cases h) (fun _ => f) rfl
          · have HXD : decide ((0 : Int) < ((x.length : Nat) : Int)) = false := decide_eq_false (by omega)
            have HYD : decide ((0 : Int) < ((Y.length : Nat) : Int)) = false := decide_eq_false (by omega)
            rw [decide_eq_false hx0, decide_eq_false hy0]
            refine region_held 167 mixed rfl (VD (qpDs00 bq bl m most x1 x2 x3 y1 y2 y3 E G 0 0 0 0 0 cx cy Ax Ay x Y)) (VD_later _) (by kernel_rfl) ?_ ?_
            rotate_left 1
            · intro a' W h
              have e0 : a'.eval (.tmp 164) = .bool false := h.at_ 58 164 rfl
              have hbW : Below V4.drew.heap.size V4.drew W := h.hb
              obtain ⟨g, hg, hge⟩ := h.frame [106, 107, 108, 109, 110, 111, 112, 113, 114, 115, 116, 117, 118, 119, 120, 121, 122, 123, 124, 125, 126, 127, 128, 129, 130, 131, 132, 133, 134, 135, 136, 137, 138, 139, 140, 141, 142, 143, 144, 145, 146, 147, 148, 149, 150, 151, 152, 153, 154, 155, 156, 157, 158, 159, 160, 161, 162, 163, 164] rfl
              rw [hge 164] at e0
              clear h hge
              subst hg
              simp only [List.foldl_cons, List.foldl_nil, List.setIfInBounds_toArray, List.set_cons_zero, List.set_cons_succ, e0]
              have HQW := Lib.hid (HQX.out.later ((below_draws V4 1 _).trans hbW))
              rw [← HYeq.out]
              clear HFU HLI HF CE CG CL HMO HXD HYD e0 hbW HQX
              go_wp2
              go_roundw
              case rel => exact ⟨k + 1, P2, x, O, Ax, cx, Ay, cy, by omega, by go_num, rfl, rfl, HQW.out⟩
              case measure => simp [intOf]; omega
            refine ⟨?_, ?_, ?_, ?_, ?_, ?_, ?_, ?_, ?_, ?_, ?_, ?_, ?_, ?_, ?_, ?_, ?_, ?_, ?_, ?_, ?_, ?_, ?_, ?_, ?_, ?_, ?_, ?_, ?_, ?_, ?_, ?_, ?_, ?_, ?_, ?_, ?_, ?_, ?_, ?_, ?_, ?_, ?_, ?_, ?_, ?_, ?_, ?_, ?_, ?_, ?_, ?_, ?_, ?_, ?_, ?_, ?_, ?_, ?_, trivial⟩
            · intro a W hb ho hg
              rw [if_pos (wanted_none rfl)]
              have e : a.eval (.tmp 5) = .pointer (some ⟨bq, 0, none⟩) := ho 5 (rfl)
              exact k_move rfl e rfl
            · intro a W hb ho hg
              rw [if_pos (wanted_none rfl)]
              have e0 : a.eval (.tmp 106) = .pointer (some ⟨bq, 0, none⟩) := hg 0 106 rfl rfl
              exact k_call (f := 26) rfl (by simp only [List.map_toArray, List.map_cons, List.map_nil, e0] <;> rfl) (by go_simp) (PL.len (HF W hb) (i := 0) rfl) (fun e W' h => ⟨_, h.1, h.2, rfl⟩)
            · intro a W hb ho hg
              rw [if_pos (wanted_none rfl)]
              have e : a.eval (.tmp 7) = .slice (Ax) x.length cx := ho 7 (rfl)
              exact k_move rfl e rfl
            · intro a W hb ho hg
              rw [if_pos (wanted_none rfl)]
              have e : a.eval (.tmp 108) = .slice (Ax) x.length cx := hg 2 108 rfl rfl
              exact k_run (r_len rfl e) rfl
            · intro a W hb ho hg
              rw [if_pos (wanted_none rfl)]
              have e : a.eval (.tmp 107) = .int .i64 ((x.length : Nat) : Int) := hg 1 107 rfl rfl
              have f : a.eval (.tmp 109) = .int .i64 ((x.length : Nat) : Int) := hg 3 109 rfl rfl
              exact k_run (r_neI rfl e f) rfl
            · intro a W hb ho hg
              rw [if_pos (wanted_none rfl)]
              have e : a.eval (.tmp 110) = .bool false := hg 4 110 rfl rfl
              exact k_move rfl e rfl
            · intro a W hb ho hg
              have eg : a.eval (.tmp 111) = .bool false := hg 5 111 rfl rfl
              rw [if_pos (wanted_some rfl rfl eg)]
              have e : a.eval (.tmp 16) = .bool false := ho 16 (rfl)
              exact k_move rfl e rfl
            · intro a W hb ho hg
              have eg : a.eval (.tmp 111) = .bool false := hg 5 111 rfl rfl
              rw [if_pos (wanted_some rfl rfl eg)]
              have e : a.eval (.tmp 7) = .slice (Ax) x.length cx := ho 7 (rfl)
              exact k_move rfl e rfl
            · intro a W hb ho hg
              have eg : a.eval (.tmp 111) = .bool false := hg 5 111 rfl rfl
              rw [if_pos (wanted_some rfl rfl eg)]
              have e : a.eval (.tmp 113) = .slice (Ax) x.length cx := hg 7 113 rfl rfl
              exact k_run (r_len rfl e) rfl
            · intro a W hb ho hg
              have eg : a.eval (.tmp 111) = .bool false := hg 5 111 rfl rfl
              rw [if_pos (wanted_some rfl rfl eg)]
              have e : a.eval (.tmp 114) = .int .i64 ((x.length : Nat) : Int) := hg 8 114 rfl rfl
              have f : a.eval (.const (.int .i64 0)) = .int .i64 0 := rfl
              exact k_run (r_gtr rfl e f HXD) rfl
            · intro a W hb ho hg
              have eg : a.eval (.tmp 111) = .bool false := hg 5 111 rfl rfl
              rw [if_pos (wanted_some rfl rfl eg)]
              have e : a.eval (.tmp 112) = .bool false := hg 6 112 rfl rfl
              have f : a.eval (.tmp 115) = .bool false := hg 9 115 rfl rfl
              exact k_run (r_neB rfl e f) rfl
            · intro a W hb ho hg
              rw [if_pos (wanted_none rfl)]
              have e : a.eval (.tmp 111) = .bool false := hg 5 111 rfl rfl
              have f : a.eval (.tmp 116) = .bool false := hg 10 116 rfl rfl
              exact k_pick rfl e (fun h => by cases h) (fun _ => f) rfl
            · intro a W hb ho hg
              rw [if_pos (wanted_none rfl)]
              have e : a.eval (.tmp 117) = .bool false := hg 11 117 rfl rfl
              exact k_move rfl e rfl
            · intro a W hb ho hg
              have eg : a.eval (.tmp 118) = .bool false := hg 12 118 rfl rfl
              rw [if_pos (wanted_some rfl rfl eg)]
              have e : a.eval (.tmp 16) = .bool false := ho 16 (rfl)
              exact k_move rfl e rfl
            · intro a W hb ho hg
              have eg : a.eval (.tmp 118) = .bool false := hg 12 118 rfl rfl
              rw [if_pos (wanted_some rfl rfl eg)]
              have e : a.eval (.tmp 119) = .bool false := hg 13 119 rfl rfl
              exact k_move rfl e rfl
            · intro a W hb ho hg
              have eg : a.eval (.tmp 120) = .bool false := hg 14 120 rfl rfl
              rw [if_neg (wanted_not rfl rfl eg)]
              rfl
            · intro a W hb ho hg
              have eg : a.eval (.tmp 120) = .bool false := hg 14 120 rfl rfl
              rw [if_neg (wanted_not rfl rfl eg)]
              rfl
            · intro a W hb ho hg
              have eg : a.eval (.tmp 120) = .bool false := hg 14 120 rfl rfl
              rw [if_neg (wanted_not rfl rfl eg)]
              rfl
            · intro a W hb ho hg
              have eg : a.eval (.tmp 120) = .bool false := hg 14 120 rfl rfl
              rw [if_neg (wanted_not rfl rfl eg)]
              rfl
            · intro a W hb ho hg
              have eg : a.eval (.tmp 120) = .bool false := hg 14 120 rfl rfl
              rw [if_neg (wanted_not rfl rfl eg)]
              rfl
            · intro a W hb ho hg
              have eg : a.eval (.tmp 118) = .bool false := hg 12 118 rfl rfl
              rw [if_pos (wanted_some rfl rfl eg)]
              have e : a.eval (.tmp 120) = .bool false := hg 14 120 rfl rfl
              have f : a.eval (.const (.bool false)) = .bool false := rfl
              exact k_pick rfl e (fun h => by cases h) (fun _ => f) rfl
            · intro a W hb ho hg
              rw [if_pos (wanted_none rfl)]
              have e : a.eval (.tmp 118) = .bool false := hg 12 118 rfl rfl
              have f : a.eval (.tmp 126) = .bool false := hg 20 126 rfl rfl
              exact k_pick rfl e (fun h => by cases h) (fun _ => f) rfl
            · intro a W hb ho hg
              rw [if_pos (wanted_none rfl)]
              have e : a.eval (.tmp 127) = .bool false := hg 21 127 rfl rfl
              exact k_move rfl e rfl
            · intro a W hb ho hg
              have eg : a.eval (.tmp 128) = .bool false := hg 22 128 rfl rfl
              rw [if_pos (wanted_some rfl rfl eg)]
              have e : a.eval (.tmp 18) = .bool false := ho 18 (rfl)
              exact k_move rfl e rfl
            · intro a W hb ho hg
              have eg : a.eval (.tmp 128) = .bool false := hg 22 128 rfl rfl
              rw [if_pos (wanted_some rfl rfl eg)]
              have e : a.eval (.tmp 8) = .slice (Ay) Y.length cy := ho 8 (rfl)
              exact k_move rfl e rfl
            · intro a W hb ho hg
              have eg : a.eval (.tmp 128) = .bool false := hg 22 128 rfl rfl
              rw [if_pos (wanted_some rfl rfl eg)]
              have e : a.eval (.tmp 130) = .slice (Ay) Y.length cy := hg 24 130 rfl rfl
              exact k_run (r_len rfl e) rfl
            · intro a W hb ho hg
              have eg : a.eval (.tmp 128) = .bool false := hg 22 128 rfl rfl
              rw [if_pos (wanted_some rfl rfl eg)]
              have e : a.eval (.tmp 131) = .int .i64 ((Y.length : Nat) : Int) := hg 25 131 rfl rfl
              have f : a.eval (.const (.int .i64 0)) = .int .i64 0 := rfl
              exact k_run (r_gtr rfl e f HYD) rfl
            · intro a W hb ho hg
              have eg : a.eval (.tmp 128) = .bool false := hg 22 128 rfl rfl
              rw [if_pos (wanted_some rfl rfl eg)]
              have e : a.eval (.tmp 129) = .bool false := hg 23 129 rfl rfl
              have f : a.eval (.tmp 132) = .bool false := hg 26 132 rfl rfl
              exact k_run (r_neB rfl e f) rfl
            · intro a W hb ho hg
              rw [if_pos (wanted_none rfl)]
              have e : a.eval (.tmp 128) = .bool false := hg 22 128 rfl rfl
              have f : a.eval (.tmp 133) = .bool false := hg 27 133 rfl rfl
              exact k_pick rfl e (fun h => by cases h) (fun _ => f) rfl
            · intro a W hb ho hg
              rw [if_pos (wanted_none rfl)]
              have e : a.eval (.tmp 134) = .bool false := hg 28 134 rfl rfl
              exact k_move rfl e rfl
            · intro a W hb ho hg
              have eg : a.eval (.tmp 135) = .bool false := hg 29 135 rfl rfl
              rw [if_pos (wanted_some rfl rfl eg)]
              have e : a.eval (.tmp 18) = .bool false := ho 18 (rfl)
              exact k_move rfl e rfl
            · intro a W hb ho hg
              have eg : a.eval (.tmp 135) = .bool false := hg 29 135 rfl rfl
              rw [if_pos (wanted_some rfl rfl eg)]
              have e : a.eval (.tmp 136) = .bool false := hg 30 136 rfl rfl
              exact k_move rfl e rfl
            · intro a W hb ho hg
              have eg : a.eval (.tmp 137) = .bool false := hg 31 137 rfl rfl
              rw [if_neg (wanted_not rfl rfl eg)]
              rfl
            · intro a W hb ho hg
              have eg : a.eval (.tmp 137) = .bool false := hg 31 137 rfl rfl
              rw [if_neg (wanted_not rfl rfl eg)]
              rfl
            · intro a W hb ho hg
              have eg : a.eval (.tmp 137) = .bool false := hg 31 137 rfl rfl
              rw [if_neg (wanted_not rfl rfl eg)]
              rfl
            · intro a W hb ho hg
              have eg : a.eval (.tmp 137) = .bool false := hg 31 137 rfl rfl
              rw [if_neg (wanted_not rfl rfl eg)]
              rfl
            · intro a W hb ho hg
              have eg : a.eval (.tmp 137) = .bool false := hg 31 137 rfl rfl
              rw [if_neg (wanted_not rfl rfl eg)]
              rfl
            · intro a W hb ho hg
              have eg : a.eval (.tmp 137) = .bool false := hg 31 137 rfl rfl
              rw [if_neg (wanted_not rfl rfl eg)]
              rfl
            · intro a W hb ho hg
              have eg : a.eval (.tmp 137) = .bool false := hg 31 137 rfl rfl
              rw [if_neg (wanted_not rfl rfl eg)]
              rfl
            · intro a W hb ho hg
              have eg : a.eval (.tmp 137) = .bool false := hg 31 137 rfl rfl
              rw [if_neg (wanted_not rfl rfl eg)]
              rfl
            · intro a W hb ho hg
              have eg : a.eval (.tmp 135) = .bool false := hg 29 135 rfl rfl
              rw [if_pos (wanted_some rfl rfl eg)]
              have e : a.eval (.tmp 137) = .bool false := hg 31 137 rfl rfl
              have f : a.eval (.const (.bool false)) = .bool false := rfl
              exact k_pick rfl e (fun h => by cases h) (fun _ => f) rfl
            · intro a W hb ho hg
              rw [if_pos (wanted_none rfl)]
              have e : a.eval (.tmp 135) = .bool false := hg 29 135 rfl rfl
              have f : a.eval (.tmp 146) = .bool false := hg 40 146 rfl rfl
              exact k_pick rfl e (fun h => by cases h) (fun _ => f) rfl
            · intro a W hb ho hg
              rw [if_pos (wanted_none rfl)]
              have e : a.eval (.tmp 147) = .bool false := hg 41 147 rfl rfl
              exact k_move rfl e rfl
            · intro a W hb ho hg
              have eg : a.eval (.tmp 148) = .bool false := hg 42 148 rfl rfl
              rw [if_pos (wanted_some rfl rfl eg)]
              have e : a.eval (.tmp 6) = .pointer (some ⟨bl, 0, none⟩) := ho 6 (rfl)
              exact k_move rfl e rfl
            · intro a W hb ho hg
              have eg : a.eval (.tmp 148) = .bool false := hg 42 148 rfl rfl
              rw [if_pos (wanted_some rfl rfl eg)]
              have e0 : a.eval (.tmp 149) = .pointer (some ⟨bl, 0, none⟩) := hg 43 149 rfl rfl
              exact k_call (f := 27) rfl (by simp only [List.map_toArray, List.map_cons, List.map_nil, e0] <;> rfl) (by go_simp) (HFU W hb) (fun e W' h => ⟨_, h.1, h.2, rfl⟩)
            · intro a W hb ho hg
              have eg : a.eval (.tmp 148) = .bool false := hg 42 148 rfl rfl
              rw [if_pos (wanted_some rfl rfl eg)]
              have e : a.eval (.tmp 8) = .slice (Ay) Y.length cy := ho 8 (rfl)
              exact k_move rfl e rfl
            · intro a W hb ho hg
              have eg : a.eval (.tmp 148) = .bool false := hg 42 148 rfl rfl
              rw [if_pos (wanted_some rfl rfl eg)]
              have e : a.eval (.tmp 151) = .slice (Ay) Y.length cy := hg 45 151 rfl rfl
              exact k_run (r_len rfl e) rfl
            · intro a W hb ho hg
              have eg : a.eval (.tmp 148) = .bool false := hg 42 148 rfl rfl
              rw [if_pos (wanted_some rfl rfl eg)]
              have e : a.eval (.tmp 0) = .int .i64 most := ho 0 (rfl)
              exact k_move rfl e rfl
            · intro a W hb ho hg
              have eg : a.eval (.tmp 148) = .bool false := hg 42 148 rfl rfl
              rw [if_pos (wanted_some rfl rfl eg)]
              have e0 : a.eval (.tmp 153) = .int .i64 most := hg 47 153 rfl rfl
              exact k_call (f := 28) rfl (by simp only [List.map_toArray, List.map_cons, List.map_nil, e0] <;> rfl) (by go_simp) (HMO W) (fun e W' h => ⟨_, h.1, h.2, rfl⟩)
            · intro a W hb ho hg
              have eg : a.eval (.tmp 148) = .bool false := hg 42 148 rfl rfl
              rw [if_pos (wanted_some rfl rfl eg)]
              have e : a.eval (.tmp 152) = .int .i64 ((Y.length : Nat) : Int) := hg 46 152 rfl rfl
              have f : a.eval (.tmp 154) = .int .i64 ((m : Nat) : Int) := hg 48 154 rfl rfl
              exact k_run (r_eqI rfl e f) rfl
            · intro a W hb ho hg
              have eg : a.eval (.tmp 148) = .bool false := hg 42 148 rfl rfl
              rw [if_pos (wanted_some rfl rfl eg)]
              have e : a.eval (.tmp 150) = .bool ((((Y.length : Nat) : Int) : Int) == (((m : Nat) : Int) : Int)) := hg 44 150 rfl rfl
              have f : a.eval (.tmp 155) = .bool ((((Y.length : Nat) : Int) : Int) == (((m : Nat) : Int) : Int)) := hg 49 155 rfl rfl
              exact k_run (r_neB rfl e f) rfl
            · intro a W hb ho hg
              rw [if_pos (wanted_none rfl)]
              have e : a.eval (.tmp 148) = .bool false := hg 42 148 rfl rfl
              have f : a.eval (.tmp 156) = .bool false := hg 50 156 rfl rfl
              exact k_pick rfl e (fun h => by cases h) (fun _ => f) rfl
            · intro a W hb ho hg
              rw [if_pos (wanted_none rfl)]
              have e : a.eval (.tmp 157) = .bool false := hg 51 157 rfl rfl
              exact k_move rfl e rfl
            · intro a W hb ho hg
              have eg : a.eval (.tmp 158) = .bool false := hg 52 158 rfl rfl
              rw [if_pos (wanted_some rfl rfl eg)]
              have e : a.eval (.tmp 6) = .pointer (some ⟨bl, 0, none⟩) := ho 6 (rfl)
              exact k_move rfl e rfl
            · intro a W hb ho hg
              have eg : a.eval (.tmp 158) = .bool false := hg 52 158 rfl rfl
              rw [if_pos (wanted_some rfl rfl eg)]
              have e0 : a.eval (.tmp 159) = .pointer (some ⟨bl, 0, none⟩) := hg 53 159 rfl rfl
              exact k_call (f := 30) rfl (by simp only [List.map_toArray, List.map_cons, List.map_nil, e0] <;> rfl) (by go_simp) (HLI W hb) (fun e W' ⟨A, c, he, hr, _, _, hb'⟩ => ⟨_, he, hb', A, c, rfl, hr⟩)
            · intro a W hb ho hg
              have eg : a.eval (.tmp 158) = .bool false := hg 52 158 rfl rfl
              rw [if_pos (wanted_some rfl rfl eg)]
              have e : a.eval (.tmp 8) = .slice (Ay) Y.length cy := ho 8 (rfl)
              exact k_move rfl e rfl
            · intro a W hb ho hg
              have eg : a.eval (.tmp 158) = .bool false := hg 52 158 rfl rfl
              rw [if_pos (wanted_some rfl rfl eg)]
              obtain ⟨Ae0, ce0, e0, re0⟩ := (show ∃ A k, a.eval (.tmp 160) = .slice A Y.length k ∧ RdS W W.heap.size A Y from hg 54 160 rfl rfl)
              have e1 : a.eval (.tmp 161) = .slice (Ay) Y.length cy := hg 55 161 rfl rfl
              exact k_call (f := 29) rfl (by simp only [List.map_toArray, List.map_cons, List.map_nil, e0, e1] <;> rfl) (by go_simp) (PL.same re0 (CL W hb) hYL) (fun e W' h => ⟨_, h.1, h.2, rfl⟩)
            · intro a W hb ho hg
              have eg : a.eval (.tmp 158) = .bool false := hg 52 158 rfl rfl
              rw [if_pos (wanted_some rfl rfl eg)]
              have e : a.eval (.tmp 162) = .bool true := hg 56 162 rfl rfl
              exact k_not rfl e rfl
            · intro a W hb ho hg
              rw [if_pos (wanted_none rfl)]
              have e : a.eval (.tmp 158) = .bool false := hg 52 158 rfl rfl
              have f : a.eval (.tmp 163) = .bool false := hg 57 163 rfl rfl
              exact k_pick rfl e (fun h => by cases h) (fun _ => f) rfl
      · have hke : k = ds.length := by omega
        have hlt2 : ¬ (k : Int) < (ds.length : Int) := by omega
        go_wp2_with fail
        refine (que_lives_any _).mono ?_
        rintro e w5 ⟨rfl, hb⟩
        go_wp2
        go_ret
        exact ⟨rfl, HQ.out.f.below.trans (hb.mono HQ.out.f.below.size)⟩

end Go.Proofs.Ytglbefkfbnaijaa
