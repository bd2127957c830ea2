/- Rings are right or not, and have the list and the operations that the document says (RingTells), walked. -/
import Derived.Test.YtkoelbdmpnelhaaRingLives
import Derived.Test.YtkoelbdmpnelhaaRefRing3
import Derived.Test.YtkoelbdmpnelhaaRefRing4
import Derived.Test.YtkoelbdmpnelhaaRefRing5
import Derived.Test.YtkoelbdmpnelhaaSame
namespace Go.Proofs.Ytkoelbdmpnelhaa
open Go.RowKit

theorem lstF_lenT (N : Int → Int) : ∀ (n : Nat) (met : List Int) (a : Int), (lstF N n met a).length ≤ met.length + n
  | 0, _, _ => by simp [lstF]
  | n + 1, met, a => by
    rw [lstF]
    split
    · have := lstF_lenT N n (met ++ [a]) (N a)
      simp at this
      omega
    · omega
theorem lstW_lenT (ws : List Int) : (lstW ws).length ≤ 4097 := by
  have := lstF_lenT (NW ws) 4097 [] (NW ws 0)
  simpa [lstW, lst] using this
theorem locksW_lenT {ws : List Int} (hu : U64L ws) (hl : ws.length ≤ 100) (s : Int) : (locksW ws s).length ≤ 5000 := by
  unfold locksW locksL
  split
  · simp
  · refine Nat.le_trans (List.length_filter_le _ _) ?_
    rw [List.length_map, List.length_range]
    have := bndW hu
    have h1 := this.n0 0
    have h2 := this.n0 s
    have h3 := this.p0 s
    unfold lockNP
    split <;> simp only <;> omega
theorem joinsW_lenT (ws : List Int) (s : Int) : (joinsW ws s).length ≤ 3 := by
  unfold joinsW
  split
  · simp
  · split <;> simp
theorem cutsW_lenT (ws : List Int) (s : Int) : (cutsW ws s).length ≤ 3 := by
  unfold cutsW
  split
  · simp
  · split <;> simp
theorem newW_lenT (n : Int) : (newW n).length ≤ 4097 := by
  unfold newW
  rw [putW_len, List.length_replicate]
  omega
theorem newW_u64T (n : Int) : U64L (newW n) := putW_u64 (fun x hx => by rw [(List.mem_replicate.1 hx).2]; decide) _ _ _
section
variable {W : World} {ws : List Int} {n m c d : Nat} {A X : Option Addr} {J : List OpT} {L : List Int}
/-- Operations, in memory. -/
def OpsT (J : List OpT) (m : Nat) (w : World) (e : Ending) (w' : World) : Prop := ∃ A c, e = .returned (.slice A m c) ∧ RdO w' 0 w'.heap.size A J ∧ Below w.heap.size w w'
theorem OpsNew.opsT {w w' : World} {e : Ending} (h : OpsNew J w e w') (hm : J.length = m) : OpsT J m w e w' := by
  subst hm
  obtain ⟨A, c, he, _, hr, hb⟩ := h
  exact ⟨A, c, he, hr.more (Nat.zero_le _) (Nat.le_refl _), hb⟩
theorem IntsNew.intsL {w w' : World} {e : Ending} (h : IntsNew L w e w') (hm : L.length = m) : IntsL L m w e w' := by
  subst hm
  obtain ⟨A, c, he, hr, hb⟩ := h
  exact ⟨A, c, he, fun k z hz => let ⟨b, off, e1, _, e2, e3⟩ := hr k z hz; ⟨b, off, e1, e2, e3⟩, hb⟩
theorem WordsNew.wordsL {us : List Int} {w w' : World} {e : Ending} (h : WordsNew us w e w') (hm : us.length = m) (hu : U64L us) : WordsL us m w e w' := by
  subst hm
  obtain ⟨A, c, he, ho, hb⟩ := h
  exact ⟨A, c, he, ⟨WordsNew.rd ho, hu, rfl⟩, hb⟩
theorem WdL.rfatc (h : WdL W ws n A) : RfAtC ws c A W := RfAtC.of h.rd (Nat.le_refl _) h.u
theorem sameW {A B : Option Addr} {zs : List Int} {c d n : Nat} (hn : zs.length = n) (hA : Rd (Value.int .u64) W W.heap.size A zs) (hB : Rd (Value.int .u64) W W.heap.size B zs) (hl : zs.length ≤ 100000) :
    Calls Try.prog 65 #[.slice A n c, .slice B n d] W fun e w' => e = .returned (.bool true) ∧ Below W.heap.size W w' := by
  subst hn
  exact (Same_refl A B zs c d W hA hB (by omega)).mono fun _ _ ⟨he, hd⟩ => ⟨he, hd.below _⟩
theorem sameO {A B : Option Addr} {J : List OpT} {c d n : Nat} (hn : J.length = n) (hA : RdO W 0 W.heap.size A J) (hB : RdO W 0 W.heap.size B J) (hl : n ≤ 100000) :
    Calls Try.prog 68 #[.slice A n c, .slice B n d] W fun e w' => e = .returned (.bool true) ∧ Below W.heap.size W w' :=
  (SameOps_refl A B J n c d 0 0 _ _ W hA hB hn hl).mono fun _ _ ⟨he, hd⟩ => ⟨he, hd.below _⟩
end
theorem rdO_later {X Y : World} {B : Option Addr} {J : List OpT} (h : RdO X 0 X.heap.size B J) (hb : Below X.heap.size X Y) : RdO Y 0 Y.heap.size B J := (h.below hb).more (Nat.le_refl _) hb.size
theorem rdW_later {X Y : World} {B : Option Addr} {L : List Int} (h : Rd (Value.int .u64) X X.heap.size B L) (hb : Below X.heap.size X Y) : Rd (Value.int .u64) Y Y.heap.size B L := (h.below hb).more hb.size

set_option maxRecDepth 100000 in
set_option maxHeartbeats 8000000 in
theorem RingTells_walk (A : Option Addr) (ws : List Int) (c : Nat) (s slots : Int) (X : Option Addr) (l : List OpG) (d : Nat) (w : World) (hR : Rd (Value.int .u64) w w.heap.size A ws) (hl : ws.length ≤ 9223372036854775807) (hU : Hid (U64L ws)) (hX : RdG w w.heap.size X l) (hll : l.length ≤ 9223372036854775807) :
    Calls Try.prog 6 #[.slice A ws.length c, .int .i64 s, .int .i64 slots, .slice X l.length d] w fun e w' => e = .returned (.bool true) ∧ Below w.heap.size w w' := by
  by_cases hfar : 100 < ws.length ∨ 100 < l.length
  · have hw : (100 : Int) < (ws.length : Int) ∨ ((ws.length : Int) ≤ 100 ∧ (100 : Int) < (l.length : Int)) := by omega
    clear hR hU hX hfar
    generalize ws.length = n at *
    generalize l.length = m at *
    rcases hw with h1 | ⟨h1, h2⟩
    all_goals
      go_enter Try.func6, Try.ntmps6
      go_wp2_with fail
      refine (ring_lives_any _).mono ?_
      rintro e w1 ⟨rfl, hb1⟩
      go_wp2
      go_ret
      exact ⟨rfl, hb1⟩
  · have hn : ws.length ≤ 100 := by omega
    have hm : l.length ≤ 100 := by omega
    have h1 : (ws.length : Int) ≤ 100 := by omega
    have h2 : (l.length : Int) ≤ 100 := by omega
    have HW : Hid (∀ W, Below w.heap.size w W → WdL W ws ws.length A) := Lib.hid fun W hb => (WdL.later ⟨hR, hU.out, rfl⟩ hb)
    have HX : Hid (∀ W, Below w.heap.size w W → RdG W W.heap.size X l) := Lib.hid fun W hb k o ho => by
      obtain ⟨b, off, e1, e2, e3⟩ := (hX.below hb) k o ho
      exact ⟨b, off, e1, Nat.lt_of_lt_of_le e2 hb.size, e3⟩
    have HI := Lib.hid hU.out
    have HLL := Lib.hid (lstW_lenT ws)
    have HKL := Lib.hid (locksW_lenT hU.out hn s)
    have HJL := Lib.hid (joinsW_lenT ws s)
    have HCL := Lib.hid (cutsW_lenT ws s)
    have HNL := Lib.hid (newW_lenT slots)
    obtain ⟨an, ap, ea, eb, _, _, _⟩ := (HW.out w (Below.refl _ _)).atc (c := c) w (Below.refl _ _) s
    have HAT : Hid (∀ W, Below w.heap.size w W → Calls Try.prog 59 #[.slice A ws.length c, .int .i64 s] W fun e w' => e = .returned (.tuple #[.int .i64 an, .int .i64 ap]) ∧ Below W.heap.size W w') := Lib.hid fun W hW => by
      obtain ⟨a', b', ea', eb', _, _, h⟩ := (HW.out w (Below.refl _ _)).atc (c := c) W hW s
      rw [← ea, ← eb, ea', eb']
      exact h
    have HRAT : Hid (∀ W, Below w.heap.size w W → Calls Try.prog 60 #[.slice A ws.length c, .int .i64 s] W fun e w' => e = .returned (.tuple #[.int .i64 an, .int .i64 ap]) ∧ Below W.heap.size W w') := Lib.hid fun W hW => by
      obtain ⟨a', b', ea', eb', _, _, h⟩ := (HW.out w (Below.refl _ _)).rfatc (c := c) W hW s
      rw [← ea, ← eb, ea', eb']
      exact h
    have HEND : Hid (∀ W, Below w.heap.size w W → Below w.heap.size w W) := Lib.hid fun W h => h
    have HLI : Hid (∀ W, Below w.heap.size w W → Calls Try.prog 61 #[.slice A ws.length c] W (IntsL (lstW ws) (lstW ws).length W)) := Lib.hid fun W hW => lList (HW.out W hW) rfl rfl
    have HRLI : Hid (∀ W, Below w.heap.size w W → Calls Try.prog 62 #[.slice A ws.length c] W (IntsL (lstW ws) (lstW ws).length W)) := Lib.hid fun W hW => (rfList_n (HW.out W hW).rfatc).mono fun _ _ h => h.ints.intsL rfl
    have HCK : Hid (∀ W, Below w.heap.size w W → Calls Try.prog 63 #[.slice A ws.length c] W fun e w' => e = .returned (.int .i64 (errOf (chkW ws))) ∧ Below W.heap.size W w') := Lib.hid fun W hW => lCheck (HW.out W hW) rfl
    have HRCK : Hid (∀ W, Below w.heap.size w W → Calls Try.prog 64 #[.slice A ws.length c] W fun e w' => e = .returned (.int .i64 (errOf (chkW ws))) ∧ Below W.heap.size W w') := Lib.hid fun W hW => rfCheck_any (HW.out W hW).rd (Nat.le_refl _) HI.out
    have HDO : Hid (∀ W, Below w.heap.size w W → Calls Try.prog 66 #[.slice A ws.length c, .slice X l.length d] W (WordsL (doG ws l) ws.length W)) := Lib.hid fun W hW => (rDo_any (HW.out W hW).rd (Nat.le_refl _) (by omega) (HX.out W hW) (Nat.le_refl _) (by omega)).mono fun _ _ h => h.wordsL (doG_len l ws) (doG_u64 l ws HI.out)
    have HRDO : Hid (∀ W, Below w.heap.size w W → Calls Try.prog 67 #[.slice A ws.length c, .slice X l.length d] W (WordsL (doG ws l) ws.length W)) := Lib.hid fun W hW => (rfDo_any (HW.out W hW).rd (Nat.le_refl _) (by omega) (HX.out W hW) (Nat.le_refl _) (by omega)).mono fun _ _ h => h.wordsL (doG_len l ws) (doG_u64 l ws HI.out)
    have HJO : Hid (∀ W, Below w.heap.size w W → Calls Try.prog 69 #[.slice A ws.length c, .int .i64 s] W (OpsT (joinsW ws s) (joinsW ws s).length W)) := Lib.hid fun W hW => (rJoins_c (HW.out W hW).atc s).mono fun _ _ h => h.opsT rfl
    have HRJO : Hid (∀ W, Below w.heap.size w W → Calls Try.prog 70 #[.slice A ws.length c, .int .i64 s] W (OpsT (joinsW ws s) (joinsW ws s).length W)) := Lib.hid fun W hW => (rfJoins_c (HW.out W hW).rfatc s).mono fun _ _ h => h.opsT rfl
    have HCU : Hid (∀ W, Below w.heap.size w W → Calls Try.prog 71 #[.slice A ws.length c, .int .i64 s] W (OpsT (cutsW ws s) (cutsW ws s).length W)) := Lib.hid fun W hW => (rCuts_c (HW.out W hW).atc s).mono fun _ _ h => h.opsT rfl
    have HRCU : Hid (∀ W, Below w.heap.size w W → Calls Try.prog 72 #[.slice A ws.length c, .int .i64 s] W (OpsT (cutsW ws s) (cutsW ws s).length W)) := Lib.hid fun W hW => (rfCuts_c (HW.out W hW).rfatc s).mono fun _ _ h => h.opsT rfl
    have HLO : Hid (∀ W, Below w.heap.size w W → Calls Try.prog 73 #[.slice A ws.length c, .int .i64 s] W (IntsL (locksW ws s) (locksW ws s).length W)) := Lib.hid fun W hW => (rLocks_c (HW.out W hW).atc s).mono fun _ _ h => h.intsL rfl
    have HRLO : Hid (∀ W, Below w.heap.size w W → Calls Try.prog 74 #[.slice A ws.length c, .int .i64 s] W (IntsL (locksW ws s) (locksW ws s).length W)) := Lib.hid fun W hW => (rfLocks_c (HW.out W hW).rfatc (by omega) s).mono fun _ _ h => h.intsL rfl
    have HNE : Hid (∀ W, Calls Try.prog 75 #[.int .i64 slots] W (WordsL (newW slots) (newW slots).length W)) := Lib.hid fun W => (rNew_any slots W).mono fun _ _ h => h.wordsL rfl (newW_u64T slots)
    have HRNE : Hid (∀ W, Calls Try.prog 76 #[.int .i64 slots] W (WordsL (newW slots) (newW slots).length W)) := Lib.hid fun W => (rfNew_any slots W).mono fun _ _ h => h.wordsL rfl (newW_u64T slots)
    have HDL : Hid ((doG ws l).length = ws.length) := Lib.hid (doG_len l ws)
    clear hR hX hU hfar ea eb HW HX HI HEND
    generalize lstW ws = L at *
    generalize errOf (chkW ws) = er at *
    generalize doG ws l = us at *
    generalize joinsW ws s = J at *
    generalize cutsW ws s = C at *
    generalize locksW ws s = K at *
    generalize newW slots = NN at *
    go_enter Try.func6, Try.ntmps6
    go_wp2_with fail
    refine (HAT.out _ (Below.refl _ _)).mono ?_
    rintro e w1 ⟨rfl, hb1⟩
    go_wp2_with fail
    refine (HRAT.out _ hb1).mono ?_
    rintro e w2 ⟨rfl, hb2⟩
    have hB2 := Below.next hb1 hb2
    clear hb1 hb2
    go_wp2_with fail
    refine (ring_lives_any _).mono ?_
    rintro e w3 ⟨rfl, hb3⟩
    have hB3 := Below.next hB2 hb3
    clear hb3 hB2
    go_wp2_with fail
    refine (HLI.out _ hB3).mono ?_
    rintro e w4 ⟨P3, pc3, rfl, hr4, hb4⟩
    have hB4 := Below.next hB3 hb4
    clear hb4 hB3
    go_wp2_with fail
    refine (HRLI.out _ hB4).mono ?_
    rintro e w5 ⟨Q3, qc3, rfl, hr5, hb5⟩
    have hB5 := Below.next hB4 hb5
    have hl5 := rd_later hr4 hb5
    clear hb5 hB4 hr4
    go_wp2_with fail
    refine (SameI_is rfl hl5 hr5 (by have := HLL.out; omega)).mono ?_
    rintro e w6 ⟨rfl, hb6⟩
    have hB6 := Below.next hB5 hb6
    clear hb6 hB5 hl5 hr5
    go_wp2_with fail
    refine (HCK.out _ hB6).mono ?_
    rintro e w7 ⟨rfl, hb7⟩
    have hB7 := Below.next hB6 hb7
    clear hb7 hB6
    go_wp2_with fail
    refine (HRCK.out _ hB7).mono ?_
    rintro e w8 ⟨rfl, hb8⟩
    have hB8 := Below.next hB7 hb8
    clear hb8 hB7
    go_wp2_with fail
    refine (HDO.out _ hB8).mono ?_
    rintro e w9 ⟨P8, pc8, rfl, hr9, hb9⟩
    have hB9 := Below.next hB8 hb9
    clear hb9 hB8
    go_wp2_with fail
    refine (HRDO.out _ hB9).mono ?_
    rintro e w10 ⟨Q8, qc8, rfl, hr10, hb10⟩
    have hB10 := Below.next hB9 hb10
    have hl10 := rdW_later hr9.rd hb10
    clear hb10 hB9 hr9
    go_wp2_with fail
    refine (sameW HDL.out hl10 hr10.rd (by have := HDL.out; omega)).mono ?_
    rintro e w11 ⟨rfl, hb11⟩
    have hB11 := Below.next hB10 hb11
    clear hb11 hB10 hl10 hr10
    go_wp2_with fail
    refine (HJO.out _ hB11).mono ?_
    rintro e w12 ⟨P11, pc11, rfl, hr12, hb12⟩
    have hB12 := Below.next hB11 hb12
    clear hb12 hB11
    go_wp2_with fail
    refine (HRJO.out _ hB12).mono ?_
    rintro e w13 ⟨Q11, qc11, rfl, hr13, hb13⟩
    have hB13 := Below.next hB12 hb13
    have hl13 := rdO_later hr12 hb13
    clear hb13 hB12 hr12
    go_wp2_with fail
    refine (sameO rfl hl13 hr13 (by have := HJL.out; omega)).mono ?_
    rintro e w14 ⟨rfl, hb14⟩
    have hB14 := Below.next hB13 hb14
    clear hb14 hB13 hl13 hr13
    go_wp2_with fail
    refine (HCU.out _ hB14).mono ?_
    rintro e w15 ⟨P14, pc14, rfl, hr15, hb15⟩
    have hB15 := Below.next hB14 hb15
    clear hb15 hB14
    go_wp2_with fail
    refine (HRCU.out _ hB15).mono ?_
    rintro e w16 ⟨Q14, qc14, rfl, hr16, hb16⟩
    have hB16 := Below.next hB15 hb16
    have hl16 := rdO_later hr15 hb16
    clear hb16 hB15 hr15
    go_wp2_with fail
    refine (sameO rfl hl16 hr16 (by have := HCL.out; omega)).mono ?_
    rintro e w17 ⟨rfl, hb17⟩
    have hB17 := Below.next hB16 hb17
    clear hb17 hB16 hl16 hr16
    go_wp2_with fail
    refine (HLO.out _ hB17).mono ?_
    rintro e w18 ⟨P17, pc17, rfl, hr18, hb18⟩
    have hB18 := Below.next hB17 hb18
    clear hb18 hB17
    go_wp2_with fail
    refine (HRLO.out _ hB18).mono ?_
    rintro e w19 ⟨Q17, qc17, rfl, hr19, hb19⟩
    have hB19 := Below.next hB18 hb19
    have hl19 := rd_later hr18 hb19
    clear hb19 hB18 hr18
    go_wp2_with fail
    refine (SameI_is rfl hl19 hr19 (by have := HKL.out; omega)).mono ?_
    rintro e w20 ⟨rfl, hb20⟩
    have hB20 := Below.next hB19 hb20
    clear hb20 hB19 hl19 hr19
    go_wp2_with fail
    refine (HNE.out _).mono ?_
    rintro e w21 ⟨P20, pc20, rfl, hr21, hb21⟩
    have hB21 := Below.next hB20 hb21
    clear hb21 hB20
    go_wp2_with fail
    refine (HRNE.out _).mono ?_
    rintro e w22 ⟨Q20, qc20, rfl, hr22, hb22⟩
    have hB22 := Below.next hB21 hb22
    have hl22 := rdW_later hr21.rd hb22
    clear hb22 hB21 hr21
    go_wp2_with fail
    refine (sameW rfl hl22 hr22.rd (by have := HNL.out; omega)).mono ?_
    rintro e w23 ⟨rfl, hb23⟩
    have hB23 := Below.next hB22 hb23
    clear hb23 hB22 hl22 hr22
    have HZ := Lib.hid hB23
    clear hB23
    go_wp2
    go_ret
    exact ⟨rfl, HZ.out⟩
end Go.Proofs.Ytkoelbdmpnelhaa
