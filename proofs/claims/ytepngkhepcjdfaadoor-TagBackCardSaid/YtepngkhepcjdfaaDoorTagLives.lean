/- The law's own question of the answers that the document gives (lives), for package tag: the answer is 'true'. -/
import Derived.Test.YtepngkhepcjdfaaDoorTagText
import Derived.Test.YtepngkhepcjdfaaDoorTagParse
import Derived.Test.YtepngkhepcjdfaaDoorSameInts
namespace Go.Proofs.YtepngkhepcjdfaaDoor
open Go.RowKit

theorem Rd.one {α : Type} {f : α → Value} {w : World} {B b : Nat} {x : α} (hb : b < B) (h0 : w.cell? ⟨b, 0, none⟩ = some (f x)) : Rd f w B (some ⟨b, 0, none⟩) [x] := by
  intro k z hz
  match k, hz with
  | 0, hz => simp at hz; subst hz; exact ⟨b, 0, rfl, hb, h0⟩

theorem Rd.two {α : Type} {f : α → Value} {w : World} {B b : Nat} {x y : α} (hb : b < B) (h0 : w.cell? ⟨b, 0, none⟩ = some (f x)) (h1 : w.cell? ⟨b, 1, none⟩ = some (f y)) :
    Rd f w B (some ⟨b, 0, none⟩) [x, y] := by
  intro k z hz
  match k, hz with
  | 0, hz => simp at hz; subst hz; exact ⟨b, 0, rfl, hb, h0⟩
  | 1, hz => simp at hz; subst hz; exact ⟨b, 0, rfl, hb, h1⟩

theorem Rd.three {α : Type} {f : α → Value} {w : World} {B b : Nat} {x y z : α} (hb : b < B) (h0 : w.cell? ⟨b, 0, none⟩ = some (f x)) (h1 : w.cell? ⟨b, 1, none⟩ = some (f y)) (h2 : w.cell? ⟨b, 2, none⟩ = some (f z)) :
    Rd f w B (some ⟨b, 0, none⟩) [x, y, z] := by
  intro k u hu
  match k, hu with
  | 0, hu => simp at hu; subst hu; exact ⟨b, 0, rfl, hb, h0⟩
  | 1, hu => simp at hu; subst hu; exact ⟨b, 0, rfl, hb, h1⟩
  | 2, hu => simp at hu; subst hu; exact ⟨b, 0, rfl, hb, h2⟩

/-- A table in memory. -/
structure Tb (A : Option Addr) (zs : List ByteArray) (c : Nat) (W : World) : Prop where
  rd : Rd Value.string W W.heap.size A zs
  room : zs.length ≤ c
  most : c ≤ 9223372036854775807
  tab : Tab W
theorem Tb.below {A : Option Addr} {zs : List ByteArray} {c : Nat} {W W' : World} (h : Tb A zs c W) (hb : Below W.heap.size W W') : Tb A zs c W' :=
  ⟨(h.rd.below hb).more hb.size, h.room, h.most, h.tab.below hb⟩

section
variable {A : Option Addr} {zs : List ByteArray} {c : Nat} {W : World}
theorem Text_t (h : Tb A zs c W) (x : Int) (h0 : 0 ≤ x) (h1 : x ≤ 18446744073709551615) : Calls Tryd.prog 9 #[.slice A zs.length c, .int .u64 x] W (TextOut (txtB zs x) (nmsW zs x) W) :=
  Text_any A zs c x W h.rd h.room h.most h0 h1 h.tab
theorem Names_t (h : Tb A zs c W) (x : Int) (h0 : 0 ≤ x) (h1 : x ≤ 18446744073709551615) : Calls Tryd.prog 7 #[.slice A zs.length c, .int .u64 x] W (TextsAre (nmsL zs x) (nmsW zs x) W) :=
  Names_any A zs c x W h.rd h.room h.most h0 h1 h.tab
theorem Parse_t (h : Tb A zs c W) (s : ByteArray) (hs : s.size ≤ 9223372036854775806) : Calls Tryd.prog 11 #[.slice A zs.length c, .string s] W (MaskOut (prsM zs s) (prsW zs s) W) :=
  Parse_any A zs c s W h.rd h.room h.most hs
end

set_option maxHeartbeats 400000 in
theorem Texts_refl (A B : Option Addr) (zs : List ByteArray) (c d : Nat) (w : World) (hA : Rd Value.string w w.heap.size A zs) (hB : Rd Value.string w w.heap.size B zs) (hl : zs.length ≤ 9223372036854775807) :
    Calls Tryd.prog 15 #[.slice A zs.length c, .slice B zs.length d] w fun e w' => e = .returned (.bool true) ∧ Drawn w w' := by
  go_enter Tryd.func15, Tryd.ntmps15
  go_wp2
  go_loopw [13] (fun i wr => ∃ k : Nat, k ≤ zs.length ∧ i = .int .i64 k ∧ Drawn w wr) (fun i _ => zs.length - (intOf i).toNat)
  case atStart => exact ⟨0, Nat.zero_le _, rfl, Drawn.refl⟩
  case round =>
    obtain ⟨k, hk, rfl, hdr⟩ := hrel
    by_cases hlt : k < zs.length
    · obtain ⟨b, off, rfl, hb, hc0⟩ := hA.at_ hlt
      obtain ⟨b', off', rfl, hb', hc0'⟩ := hB.at_ hlt
      have hc := (hdr.cell _).trans hc0
      have hc' := (hdr.cell _).trans hc0'
      clear hc0 hc0'
      generalize zs[k] = z at hc hc'
      have hkl : (k : Int) < (zs.length : Int) := by omega
      have hk0 : (0 : Int) ≤ (k : Int) := by omega
      go_wp2
      go_quiet (fail)
      go_wp2
      go_roundw
      case rel => exact ⟨k + 1, by omega, by go_num, hdr.step _⟩
      case measure => simp [intOf]; omega
    · go_wp2
      go_ret
      exact ⟨rfl, hdr⟩

def abc : List ByteArray := [ByteArray.mk #[97], ByteArray.mk #[98], ByteArray.mk #[99]]
theorem lit_facts : (txtB abc 5 = ByteArray.mk #[97, 43, 99] ∧ nmsW abc 5 = 0) ∧ nmsW abc 8 = 6 ∧ (prsM abc (ByteArray.mk #[97, 43, 99]) = 5 ∧ prsW abc (ByteArray.mk #[97, 43, 99]) = 0) ∧
    prsW abc (ByteArray.mk #[99, 43, 97]) = 11 ∧ prsW abc (ByteArray.mk #[97, 43, 97]) = 10 ∧ prsW abc (ByteArray.mk #[97, 43]) = 3 ∧ (nmsL abc 6 = [ByteArray.mk #[98], ByteArray.mk #[99]] ∧ nmsW abc 6 = 0) ∧
    (prsM abc (ByteArray.mk #[]) = 0 ∧ prsW abc (ByteArray.mk #[]) = 0) ∧ bitsL 5 = [0, 2] ∧ chkT [ByteArray.mk #[65]] = 7 ∧ chkT [ByteArray.mk #[97], ByteArray.mk #[97]] = 10 := by
  decide +kernel

set_option maxRecDepth 100000 in
set_option maxHeartbeats 4000000 in
theorem tag_lives_any (w : World) (hT : Tab w) : Calls Tryd.prog 6 #[] w fun e w' => e = .returned (.bool true) ∧ Below w.heap.size w w' := by
  have F := Lib.hid lit_facts
  have HT := Lib.hid hT
  clear hT
  go_enter Tryd.func6, Tryd.ntmps6
  go_wp2_with fail
  have t1 : Tb (some ⟨w.heap.size, 0, none⟩) abc 3 (w.alloc (.cells #[.string (ByteArray.mk #[97]), .string (ByteArray.mk #[98]), .string (ByteArray.mk #[99])] 9)) :=
    ⟨Rd.three (by go_size) (by go_cell) (by go_cell) (by go_cell), Nat.le_refl 3, by decide, HT.out.below ((Below.refl _ w).alloc (Nat.le_refl _) _)⟩
  have B1 : Below w.heap.size w (w.alloc (.cells #[.string (ByteArray.mk #[97]), .string (ByteArray.mk #[98]), .string (ByteArray.mk #[99])] 9)) := (Below.refl _ w).alloc (Nat.le_refl _) _
  refine Calls.mono (Text_t t1 5 (by decide) (by decide)) ?_
  rintro e w2 ⟨rfl, hb⟩
  rw [F.out.1.1, F.out.1.2]
  have t2 := t1.below hb
  have B2 := Below.next B1 hb
  clear hb t1 B1
  go_wp2_with fail
  refine Calls.mono (Text_t t2 8 (by decide) (by decide)) ?_
  rintro e w3 ⟨rfl, hb⟩
  rw [F.out.2.1]
  have t3 := t2.below hb
  have B3 := Below.next B2 hb
  clear hb t2 B2
  go_wp2_with fail
  refine Calls.mono (Parse_t t3 (ByteArray.mk #[97, 43, 99]) (by decide)) ?_
  rintro e w4 ⟨rfl, hb⟩
  rw [F.out.2.2.1.1, F.out.2.2.1.2]
  have t4 := t3.below hb
  have B4 := Below.next B3 hb
  clear hb t3 B3
  go_wp2_with fail
  refine Calls.mono (Parse_t t4 (ByteArray.mk #[99, 43, 97]) (by decide)) ?_
  rintro e w5 ⟨rfl, hb⟩
  rw [F.out.2.2.2.1]
  have t5 := t4.below hb
  have B5 := Below.next B4 hb
  clear hb t4 B4
  go_wp2_with fail
  refine Calls.mono (Parse_t t5 (ByteArray.mk #[97, 43, 97]) (by decide)) ?_
  rintro e w6 ⟨rfl, hb⟩
  rw [F.out.2.2.2.2.1]
  have t6 := t5.below hb
  have B6 := Below.next B5 hb
  clear hb t5 B5
  go_wp2_with fail
  refine Calls.mono (Parse_t t6 (ByteArray.mk #[97, 43]) (by decide)) ?_
  rintro e w7 ⟨rfl, hb⟩
  rw [F.out.2.2.2.2.2.1]
  have t7 := t6.below hb
  have B7 := Below.next B6 hb
  clear hb t6 B6
  go_wp2_with fail
  refine Calls.mono (Names_t t7 6 (by decide) (by decide)) ?_
  rintro e w8 ⟨AL, cL, rfl, hrL, hcL, hmL, hb⟩
  rw [F.out.2.2.2.2.2.2.1.1] at hrL hcL
  rw [F.out.2.2.2.2.2.2.1.1, F.out.2.2.2.2.2.2.1.2]
  have t8 := t7.below hb
  have B8 := Below.next B7 hb
  clear hb t7 B7
  go_wp2_with fail
  refine Calls.mono (Parse_t t8 (ByteArray.mk #[]) (by decide)) ?_
  rintro e w9 ⟨rfl, hb⟩
  rw [F.out.2.2.2.2.2.2.2.1.1, F.out.2.2.2.2.2.2.2.1.2]
  have r9 := (hrL.below hb).more hb.size
  have t9 := t8.below hb
  have B9 := Below.next B8 hb
  clear hb t8 B8 hrL
  go_wp2_with fail
  refine Calls.mono (Texts_refl AL _ [ByteArray.mk #[98], ByteArray.mk #[99]] _ _ _ ((r9.below (by go_grown)).more (by go_size)) (Rd.two (by go_size) (by go_cell) (by go_cell)) (by decide)) ?_
  rintro e w10 ⟨rfl, hd⟩
  have K10 : Below w9.heap.size w9 w10 := Below.next (by go_grown) (hd.below _)
  have t10 := t9.below K10
  have B10 := Below.next B9 K10
  clear hd K10 t9 B9 r9
  go_wp2_with fail
  refine Calls.mono (tagHas_any 7 5 _) ?_
  rintro e w' ⟨rfl, rfl⟩
  rw [show (bits .and .u64 7 5 == 5) = true from by decide]
  go_wp2_with fail
  refine Calls.mono (tagHas_any 4 5 _) ?_
  rintro e w' ⟨rfl, rfl⟩
  rw [show (bits .and .u64 4 5 == 5) = false from by decide]
  go_wp2_with fail
  refine Calls.mono (Bits_any 5 _ (by decide) (by decide) t10.tab) ?_
  rintro e w11 ⟨A11, c11, rfl, hr11, hb⟩
  rw [F.out.2.2.2.2.2.2.2.2.1] at hr11 ⊢
  have B11 := Below.next B10 hb
  clear hb t10 B10
  go_wp2_with fail
  refine Calls.mono (SameInts_refl A11 _ [0, 2] _ _ _ ((hr11.below (by go_grown)).more (by go_size)) (Rd.two (by go_size) (by go_cell) (by go_cell)) (by decide)) ?_
  rintro e w12 ⟨rfl, hd⟩
  have B12 : Below w.heap.size w w12 := Below.next B11 (Below.next (by go_grown) (hd.below _))
  clear hd B11 hr11
  go_wp2_with fail
  refine Calls.mono (Check_any _ [ByteArray.mk #[65]] _ _ (Rd.one (by go_size) (by go_cell)) (by decide) (by decide)) ?_
  rintro e w13 ⟨rfl, hb⟩
  rw [F.out.2.2.2.2.2.2.2.2.2.1]
  have B13 : Below w.heap.size w w13 := Below.next B12 (Below.next (by go_grown) hb)
  clear hb B12
  go_wp2_with fail
  refine Calls.mono (Check_any _ [ByteArray.mk #[97], ByteArray.mk #[97]] _ _ (Rd.two (by go_size) (by go_cell) (by go_cell)) (by decide) (by decide)) ?_
  rintro e w14 ⟨rfl, hb⟩
  rw [F.out.2.2.2.2.2.2.2.2.2.2]
  have B14 : Below w.heap.size w w14 := Below.next B13 (Below.next (by go_grown) hb)
  clear hb B13
  go_wp2
  go_ret
  exact ⟨rfl, B14⟩

end Go.Proofs.YtepngkhepcjdfaaDoor
