/- ring's put, Do and New, by contract. -/
import Derived.Test.YtkoelbdmpnelhaaRingOps
import Derived.Test.YtkoelbdmpnelhaaShelf
namespace Go.Proofs.Ytkoelbdmpnelhaa
open Go.RowKit

def u64s (ws : List Int) : List Value := ws.map (Value.int .u64)
theorem u64s_one {zs : List Int} : ∀ u ∈ u64s zs, u.oneCell' = true := by
  intro u hu
  obtain ⟨x, _, rfl⟩ := List.mem_map.1 hu
  rfl
theorem info_u64r : (Try.prog.info? 101).map (fun i => (i.zero, i.size, i.bytes)) = some (some (.int .u64 0), 1, 8) := by kernel_rfl
/-- The words of a row of the call's own, and nothing else is turned. -/
def PutOut (base : Nat) (v : Value) (n : Nat) (us : List Int) (w : World) (e : Ending) (w' : World) : Prop := e = .returned (.tuple #[]) ∧ w'.ownsRow base 101 1 v n (u64s us) ∧ Below base w w'
theorem rPut_any {ws : List Int} {base n c : Nat} {A : Option Addr} {w : World} (h : w.ownsRow base 101 1 (.slice A n c) n (u64s ws)) (hb : base ≤ w.heap.size) (hl : ws.length = n) (s x p : Int) :
    Calls Try.prog 131 #[.slice A n c, .int .i64 s, .int .i64 x, .int .i64 p] w (PutOut base (.slice A n c) n (putW ws s x p) w) := by
  have HH := Lib.hid (fun W => rHas_any n c A s W)
  by_cases hs : 0 ≤ s ∧ s < (n : Int)
  · rw [decide_eq_true hs] at HH
    have HP := Lib.hid (PutRing_any x p w)
    unfold PairOut at HP
    by_cases hr : (ringS x p).2 = 0
    · obtain ⟨k, rfl⟩ : ∃ k : Nat, s = (k : Int) := ⟨s.toNat, by omega⟩
      have hk : k < ws.length := by omega
      obtain ⟨g, rfl, hg1, hg2⟩ := ownPos h (by omega)
      have HW : Hid (putW ws (k : Int) x p = ws.set k (ringS x p).1) := Lib.hid (by unfold putW; rw [if_pos ⟨⟨hs.1, by omega⟩, hr⟩]; rfl)
      rw [hr] at HP
      generalize ringS x p = rr at *
      obtain ⟨v, y⟩ := rr
      have hk0 : (0 : Int) ≤ (k : Int) := hs.1
      have hk1 : (k : Int) < (n : Int) := hs.2
      simp only at HW HP
      have HO := Lib.hid h
      clear hs hr h
      go_enter Try.func131, Try.ntmps131
      go_wp2_with fail
      refine (HH.out _).mono ?_
      rintro e w1 ⟨rfl, rfl⟩
      go_wp2_with fail
      refine HP.out.mono ?_
      rintro e w2 ⟨rfl, hb2⟩
      have hown2 := ownsRow_same HO.out (fun g hg => hb2.block g (HO.out.lt g hg).2)
      have HB2 := Lib.hid (hb2.mono hb)
      have hgl := hb2.size
      have HC := Lib.hid (hown2.stored k (.int .u64 v)).1
      rcases hown2.2 with ⟨hv, _⟩ | ⟨g', cap, cur, hv, _, hh, hc1, hc2, hc3, hc4⟩
      · injection hv with hv; cases hv
      · injection hv with hv hv1 hv2
        injection hv with hv
        injection hv with hv
        subst hv hv2
        have hlt : k < cur.size := by omega
        have hcell : w2.cell? ⟨g, k, none⟩ = some cur[k] := (cell_of_row _ _ k _ _ (0, 0) hh).trans (Array.getElem?_eq_getElem hlt)
        have hfr : w2.frozen? ⟨g, k, none⟩ = false := by simp only [World.frozen?]; rw [hh]; simp
        have HF : Hid (PutOut base (.slice (some ⟨g, 0, none⟩) n c) n (putW ws (k : Int) x p) w (.returned (.tuple #[])) (w2.setCell ⟨g, k, none⟩ (.int .u64 v))) := Lib.hid ⟨rfl, by rw [HW.out]; unfold u64s; rw [List.map_set]; exact HC.out, HB2.out.setCell (p := ⟨g, k, none⟩) hg1 _⟩
        clear hown2 hh hc4 hc3 HC HO HW HP HB2 hb2
        go_wp2
        first | exact bodyPost_ret (results_none rfl _ _ _) rfl HF.out | exact bodyPost_end (results_none rfl _ _ _) rfl HF.out
    · have HW : Hid (putW ws s x p = ws) := Lib.hid (by unfold putW; rw [if_neg (fun e => hr e.2)])
      generalize ringS x p = rr at *
      obtain ⟨v, y⟩ := rr
      simp only at hr HP
      have hrb : (y == 0) = false := by rw [beq_eq_false_iff_ne]; exact hr
      have HO := Lib.hid h
      clear hs hr h
      go_enter Try.func131, Try.ntmps131
      go_wp2_with fail
      refine (HH.out _).mono ?_
      rintro e w1 ⟨rfl, rfl⟩
      go_wp2_with fail
      refine HP.out.mono ?_
      rintro e w2 ⟨rfl, hb2⟩
      have hown2 := ownsRow_same HO.out (fun g hg => hb2.block g (HO.out.lt g hg).2)
      have HF : Hid (PutOut base (.slice A n c) n (putW ws s x p) w (.returned (.tuple #[])) w2) := Lib.hid ⟨rfl, by rw [HW.out]; exact hown2, hb2.mono hb⟩
      clear hown2 hb2 HO HP HW
      go_wp2
      first | exact bodyPost_ret (results_none rfl _ _ _) rfl HF.out | exact bodyPost_end (results_none rfl _ _ _) rfl HF.out
  · rw [decide_eq_false hs] at HH
    have HW : Hid (putW ws s x p = ws) := Lib.hid (by unfold putW; rw [if_neg (fun e => hs (by rw [← hl]; exact e.1))])
    have HF : Hid (PutOut base (.slice A n c) n (putW ws s x p) w (.returned (.tuple #[])) w) := Lib.hid ⟨rfl, by rw [HW.out]; exact h, Below.refl _ _⟩
    clear h hs HW
    go_enter Try.func131, Try.ntmps131
    go_wp2_with fail
    refine (HH.out _).mono ?_
    rintro e w1 ⟨rfl, rfl⟩
    go_wp2
    first | exact bodyPost_ret (results_none rfl _ _ _) rfl HF.out | exact bodyPost_end (results_none rfl _ _ _) rfl HF.out
/-- Words in memory of the call's own. -/
def WordsNew (us : List Int) (w : World) (e : Ending) (w' : World) : Prop := ∃ A c, e = .returned (.slice A us.length c) ∧ w'.ownsRow w.heap.size 101 1 (.slice A us.length c) us.length (u64s us) ∧ Below w.heap.size w w'
theorem WordsNew.rd {us : List Int} {w w' : World} {A : Option Addr} {c : Nat} (h : w'.ownsRow w.heap.size 101 1 (.slice A us.length c) us.length (u64s us)) : Rd (Value.int .u64) w' w'.heap.size A us := Rd.of_own h
theorem wnews {w : World} {B : Nat} {ad : Addr} {zs : List Int} (h : Rd (Value.int .u64) w B (some ad) zs) : ∀ j u, (u64s zs)[j]? = some u → w.cell? (ad.add j) = some u := by
  intro j u hj
  unfold u64s at hj
  rw [List.getElem?_map] at hj
  cases hz : zs[j]? with
  | none => rw [hz] at hj; cases hj
  | some z =>
    rw [hz] at hj
    injection hj with hj
    subst hj
    obtain ⟨b, off, he, _, hc⟩ := h j z hz
    injection he with he
    subst he
    rw [show Addr.add ⟨b, off, none⟩ j = ⟨b, off + j, none⟩ from by simp [Addr.add]]
    exact hc
theorem wnone {w : World} {B : Nat} {ws : List Int} (h : Rd (Value.int .u64) w B none ws) : ws = [] := by
  cases ws with
  | nil => rfl
  | cons z r =>
    obtain ⟨_, _, he, _⟩ := h 0 z rfl
    cases he
set_option maxHeartbeats 2000000 in
theorem cloneW_any {ws : List Int} {c : Nat} {A : Option Addr} {w : World} {B : Nat} (hA : Rd (Value.int .u64) w B A ws) (hB : B ≤ w.heap.size) (hl : ws.length ≤ 100000) :
    Calls Try.prog 130 #[.slice A ws.length c] w (WordsNew ws w) := by
  obtain ⟨i0, hi0, hz0, hz1, hz2⟩ := info_parts info_u64r
  have q : ∀ (w : World) (a : Option Addr) (n c n' c' : Nat), (binOp .eql 88 (.slice a n c) (.slice none n' c')).run Try.prog w = .ok (.bool a.isNone) w := fun w a n c n' c' => Lib.run_eql_slice_nil w _ _ a n c n' c' Try.underlying88
  cases A with
  | none =>
    have hn := wnone hA
    subst hn
    go_enter Try.func130, Try.ntmps130
    go_wp2
    go_ret
    exact ⟨none, 0, rfl, World.ownsRow_nil _ _ _ _, Below.refl _ _⟩
  | some ad =>
    have hb0 : ∀ o, Below w.heap.size w (w.alloc o) := fun o => (Below.refl _ w).alloc (Nat.le_refl _) o
    have hA2 := hA.more hB
    clear hA hB
    go_enter Try.func130, Try.ntmps130
    go_wp2_with (at_builtin; refine wpList_append_own _ rfl _ _ 88 rfl w.heap.size 101 i0 (.int .u64 0) 1 8 Try.underlying88 hi0 hz0 hz1 hz2 rfl (by decide) _ _ _ rfl (World.ownsRow_made w #[] 0 (Nat.le_refl _) (Nat.zero_le _) rfl) ad ws.length c (u64s ws) rfl ?c1 ?c2 u64s_one ?c3 ?c4 ?c5 ?_)
    case c1 => simp [u64s]
    case c2 => exact wnews (hA2.below (hb0 _))
    case c3 => unfold maxLen; omega
    case c4 => omega
    case c5 => simp
    intro v' w1 hown hgrow _
    have hown2 : w1.ownsRow w.heap.size 101 1 v' ws.length (u64s ws) := by simpa using hown
    have hB : Below w.heap.size w w1 := (hb0 _).grown hgrow (by simp) (by intro k hk; simp [Value.ownBlock] at hk; omega)
    obtain ⟨A2, c2, rfl, _, _⟩ := ownSlice hown2
    have HO : Hid (WordsNew ws w (.returned (.slice A2 ws.length c2)) w1) := Lib.hid ⟨A2, c2, rfl, hown2, hB⟩
    clear hown hgrow q hb0 hown2 hB hA2
    go_wp2
    go_ret
    exact HO.out

/-- Any operation, by what it holds. -/
structure OpG where
  k : Int
  a : Int
  b : Int
  n : Int
  m : Int
  id : Int
  lA : Option Addr
  ln : Nat
  lc : Nat
  ii : Int
  vA : Option Addr
  vn : Nat
  vc : Nat
  tg : Int
def cellG (o : OpG) : List Value := [.int .i64 o.k, .int .i64 o.a, .int .i64 o.b, .int .i64 o.n, .int .i64 o.m, .int .u64 o.id, .slice o.lA o.ln o.lc, .int .u64 o.ii, .slice o.vA o.vn o.vc, .int .u64 o.tg]
def opG (o : OpT) : OpG := ⟨12, o.1, 0, o.2.1, o.2.2, 0, none, 0, 0, 0, none, 0, 0, 0⟩
theorem cellG_opG (o : OpT) : cellG (opG o) = cellO o := rfl
def stepG (u : List Int) (o : OpG) : List Int := if o.k = 12 then putW u o.a o.n o.m else u
def doG (ws : List Int) (l : List OpG) : List Int := l.foldl stepG ws
theorem doG_opG (l : List OpT) : ∀ ws : List Int, doG ws (l.map opG) = doW ws l := by
  induction l with
  | nil => intro ws; rfl
  | cons o l ih => intro ws; exact ih _
theorem doG_take {ws : List Int} {l : List OpG} {k : Nat} {o : OpG} (h : l[k]? = some o) : doG ws (l.take (k + 1)) = stepG (doG ws (l.take k)) o := by
  have hk := (List.getElem?_eq_some_iff.1 h)
  obtain ⟨hk, rfl⟩ := hk
  unfold doG
  rw [List.take_succ_eq_append_getElem hk, List.foldl_append]
  rfl
theorem doG_len (l : List OpG) : ∀ ws : List Int, (doG ws l).length = ws.length := by
  induction l with
  | nil => intro ws; rfl
  | cons o l ih =>
    intro ws
    show (doG (stepG ws o) l).length = _
    rw [ih]
    unfold stepG
    split
    · rw [putW_len]
    · rfl
theorem doG_u64 (l : List OpG) : ∀ ws : List Int, U64L ws → U64L (doG ws l) := by
  induction l with
  | nil => intro ws h; exact h
  | cons o l ih =>
    intro ws h
    refine ih _ ?_
    unfold stepG
    split
    · exact putW_u64 h _ _ _
    · exact h
def RdG (w : World) (B : Nat) (A : Option Addr) (L : List OpG) : Prop := ∀ k o, L[k]? = some o → ∃ b off, A = some ⟨b, off, none⟩ ∧ b < B ∧ ∀ j v, (cellG o)[j]? = some v → w.cell? ⟨b, off + k * 10 + j, none⟩ = some v
theorem RdG.below {w w' : World} {B : Nat} {A : Option Addr} {L : List OpG} (h : RdG w B A L) (hb : Below B w w') : RdG w' B A L := fun k o ho => by
  obtain ⟨b, off, e1, e3, e4⟩ := h k o ho
  exact ⟨b, off, e1, e3, fun j v hj => (hb.cell (p := ⟨b, off + k * 10 + j, none⟩) e3).trans (e4 j v hj)⟩
theorem RdO.toG {w : World} {n B : Nat} {A : Option Addr} {L : List OpT} (h : RdO w n B A L) : RdG w B A (L.map opG) := fun k o ho => by
  rw [List.getElem?_map] at ho
  cases hl : L[k]? with
  | none => rw [hl] at ho; cases ho
  | some x =>
    rw [hl] at ho
    injection ho with ho
    subst ho
    obtain ⟨b, off, e1, _, e3, e4⟩ := h k x hl
    exact ⟨b, off, e1, e3, e4⟩

set_option maxRecDepth 100000 in
set_option maxHeartbeats 4000000 in
theorem rDo_any {ws : List Int} {l : List OpG} {c d : Nat} {A X : Option Addr} {w : World} {B B' : Nat} (hA : Rd (Value.int .u64) w B A ws) (hB : B ≤ w.heap.size) (hl : ws.length ≤ 100000) (hX : RdG w B' X l) (hB' : B' ≤ w.heap.size) (hll : l.length ≤ 100000) :
    Calls Try.prog 66 #[.slice A ws.length c, .slice X l.length d] w (WordsNew (doG ws l) w) := by
  have HCl := Lib.hid (cloneW_any (c := c) hA hB hl)
  have HX := Lib.hid (hX.below (w' := w) (Below.refl _ _))
  clear hA hB hX
  go_enter Try.func66, Try.ntmps66
  go_wp2_with fail
  refine HCl.out.mono ?_
  rintro e w1 ⟨A1, c1, rfl, hown1, hb1⟩
  have HO1 := Lib.hid hown1
  have HB1 := Lib.hid hb1
  clear hown1 hb1 HCl
  go_wp2
  go_loopw [11] (fun i wr => ∃ k : Nat, k ≤ l.length ∧ i = .int .i64 (k : Int) ∧ wr.ownsRow w.heap.size 101 1 (.slice A1 ws.length c1) ws.length (u64s (doG ws (l.take k))) ∧ Below w.heap.size w wr) (fun i _ => l.length - (intOf i).toNat)
  case atStart => exact ⟨0, Nat.zero_le _, rfl, HO1.out, HB1.out⟩
  case round =>
    obtain ⟨k, hk, rfl, hown, hbel⟩ := hrel
    by_cases hlt : k < l.length
    · have hkl : (k : Int) < (l.length : Int) := by omega
      have hk0 : (0 : Int) ≤ (k : Int) := by omega
      have HT := Lib.hid (doG_take (ws := ws) (List.getElem?_eq_getElem hlt))
      have HLEN := Lib.hid (doG_len (l.take k) ws)
      obtain ⟨b, off, rfl, hbl, hc⟩ := (HX.out.below (hbel.mono hB')) k _ (List.getElem?_eq_getElem hlt)
      have HC := Lib.hid hc
      clear hc
      have HOW := Lib.hid hown
      have HBL := Lib.hid hbel
      clear hown hbel
      generalize l[k] = o at *
      obtain ⟨ok, oa, ob, on, om, oid, lA, ln, lc, oi, vA, vn, vc, tg⟩ := o
      have q0 : wr.cell? ⟨b, off + k * 10, none⟩ = some (.int .i64 ok) := HC.out 0 _ rfl
      have q1 : wr.cell? ⟨b, off + k * 10 + 1, none⟩ = some (.int .i64 oa) := HC.out 1 _ rfl
      have q2 : wr.cell? ⟨b, off + k * 10 + 2, none⟩ = some (.int .i64 ob) := HC.out 2 _ rfl
      have q3 : wr.cell? ⟨b, off + k * 10 + 3, none⟩ = some (.int .i64 on) := HC.out 3 _ rfl
      have q4 : wr.cell? ⟨b, off + k * 10 + 4, none⟩ = some (.int .i64 om) := HC.out 4 _ rfl
      have q5 : wr.cell? ⟨b, off + k * 10 + 5, none⟩ = some (.int .u64 oid) := HC.out 5 _ rfl
      have q6 : wr.cell? ⟨b, off + k * 10 + 6, none⟩ = some (.slice lA ln lc) := HC.out 6 _ rfl
      have q7 : wr.cell? ⟨b, off + k * 10 + 7, none⟩ = some (.int .u64 oi) := HC.out 7 _ rfl
      have q8 : wr.cell? ⟨b, off + k * 10 + 8, none⟩ = some (.slice vA vn vc) := HC.out 8 _ rfl
      have q9 : wr.cell? ⟨b, off + k * 10 + 9, none⟩ = some (.int .u64 tg) := HC.out 9 _ rfl
      have HOA : Hid (∀ ob : Obj, (wr.alloc ob).ownsRow w.heap.size 101 1 (.slice A1 ws.length c1) ws.length (u64s (doG ws (l.take k)))) := Lib.hid fun ob => HOW.out.alloc ob
      have HBA : Hid (∀ ob : Obj, Below w.heap.size w (wr.alloc ob)) := Lib.hid fun ob => HBL.out.alloc HBL.out.size ob
      clear HC HOW HBL
      by_cases hkd : ok = 12
      · subst hkd
        have HT2 : Hid (doG ws (l.take (k + 1)) = putW (doG ws (l.take k)) oa on om) := Lib.hid (by rw [HT.out]; rfl)
        have HPP := Lib.hid (fun ob => rPut_any (HOA.out ob) (HBA.out ob).size HLEN.out oa on om)
        clear HT HOA
        generalize doG ws (l.take k) = us at *
        go_wp2_with fail
        refine (HPP.out _).mono ?_
        rintro e w2 ⟨rfl, hown2, hb2⟩
        have HO2 : Hid (w2.ownsRow w.heap.size 101 1 (.slice A1 ws.length c1) ws.length (u64s (doG ws (l.take (k + 1))))) := Lib.hid (by rw [HT2.out]; exact hown2)
        have HB2 := Lib.hid ((HBA.out (.cells #[.int .i64 12, .int .i64 oa, .int .i64 ob, .int .i64 on, .int .i64 om, .int .u64 oid, .slice lA ln lc, .int .u64 oi, .slice vA vn vc, .int .u64 tg] 106)).trans hb2)
        clear hown2 hb2 HT2 HPP HBA
        go_wp2
        go_roundw
        case rel => exact ⟨k + 1, by omega, by go_num, HO2.out, HB2.out⟩
        case measure => simp [intOf]; omega
      · have HT2 : Hid (doG ws (l.take (k + 1)) = doG ws (l.take k)) := Lib.hid (by rw [HT.out]; exact if_neg hkd)
        have hkb : (ok == 12) = false := by rw [beq_eq_false_iff_ne]; exact hkd
        clear HT
        generalize doG ws (l.take k) = us at *
        go_wp2
        go_roundw
        case rel => exact ⟨k + 1, by omega, by go_num, by rw [HT2.out]; exact HOA.out _, HBA.out _⟩
        case measure => simp [intOf]; omega
    · obtain rfl : k = l.length := by omega
      rw [List.take_length] at hown
      have HF : Hid (WordsNew (doG ws l) w (.returned (.slice A1 ws.length c1)) wr) := Lib.hid ⟨A1, c1, by rw [doG_len], by rw [doG_len]; exact hown, hbel⟩
      clear hown hbel
      go_wp2
      go_ret
      exact HF.out
end Go.Proofs.Ytkoelbdmpnelhaa
