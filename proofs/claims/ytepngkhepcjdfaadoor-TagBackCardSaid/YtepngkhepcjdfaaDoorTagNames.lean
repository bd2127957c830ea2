/- Contracts of package tag's and of the document's functions on names: mayBeInName, isName, name, slices.Index, slices.Contains, find. -/
import Derived.Test.YtepngkhepcjdfaaDoorTagPlain
import Derived.Laws.RangeAny
namespace Go.Proofs.YtepngkhepcjdfaaDoor
open Go.RowKit

theorem mayBe_any (n : Nat) (w : World) :
    Calls Tryd.prog 40 #[.int .i32 n] w fun e w' => e = .returned (.bool (letN n)) ∧ w = w' := by
  rcases letN_ways n with ⟨h, hb⟩ | ⟨rfl, hb⟩ | ⟨h, h', hb⟩ | ⟨h, h', hb⟩ | ⟨h, h', hb⟩ | ⟨h, h', hb⟩ | ⟨h, hb⟩
  all_goals
    rw [hb]
    clear hb
    go_enter Tryd.func40, Tryd.ntmps40
    go_wp2
    go_ret
    first
      | exact ⟨rfl, rfl⟩
      | exact ⟨ret_bool (by simp; omega), rfl⟩

theorem width_pos (s : ByteArray) (pos : Nat) (h : pos < s.size) : 1 ≤ (Utf8.decode s pos).2 := by
  by_cases ha : (s[pos]'h).toNat < 128
  · rw [decode_ascii s pos h ha]
    exact Nat.le_refl _
  · exact (decode_high s pos h (by omega)).2

/-- What the first character of s from pos on is, as far as names go: its byte, and the next place is the next one; or it may not be in a name, and its byte neither. -/
theorem char_ways (s : ByteArray) (pos : Nat) (h : pos < s.size) :
    (letN (Utf8.decode s pos).1 = true ∧ letN (s[pos]'h).toNat = true ∧ (Utf8.decode s pos).2 = 1) ∨ (letN (Utf8.decode s pos).1 = false ∧ letN (s[pos]'h).toNat = false) := by
  by_cases ha : (s[pos]'h).toNat < 128
  · rw [decode_ascii s pos h ha]
    show (letN (s[pos]'h).toNat = true ∧ _ ∧ 1 = 1) ∨ letN (s[pos]'h).toNat = false ∧ _
    generalize letN (s[pos]'h).toNat = q
    cases q <;> simp
  · have hd := (decode_high s pos h (by omega)).1
    have h1 := letN_ways (Utf8.decode s pos).1
    have h2 := letN_ways (s[pos]'h).toNat
    refine .inr ⟨?_, ?_⟩
    · rcases h1 with ⟨_, hb⟩ | ⟨_, hb⟩ | ⟨_, _, hb⟩ | ⟨_, _, hb⟩ | ⟨_, _, hb⟩ | ⟨_, _, hb⟩ | ⟨_, hb⟩ <;> first | exact hb | omega
    · rcases h2 with ⟨_, hb⟩ | ⟨_, hb⟩ | ⟨_, _, hb⟩ | ⟨_, _, hb⟩ | ⟨_, _, hb⟩ | ⟨_, _, hb⟩ | ⟨_, hb⟩ <;> first | exact hb | omega

theorem empty_of (s : ByteArray) (h : s.size = 0) : s = ByteArray.mk #[] := ByteArray.ext (Array.eq_empty_of_size_eq_zero h)
theorem toList_ne (s : ByteArray) (h : ¬ s.size = 0) : ¬ s.toList = [] := fun k => h (by
  rw [ByteArray.toList_eq] at k
  have : s.data.toList.length = 0 := by rw [k]; rfl
  simpa using this)

set_option maxHeartbeats 1000000 in
theorem isName_any (s : ByteArray) (w : World) :
    Calls Tryd.prog 28 #[.string s] w fun e w' => e = .returned (.bool (nameOk s)) ∧ Below w.heap.size w w' := by
  by_cases h0 : s.size = 0
  · have HN := Lib.hid (show nameOk s = false by simp [nameOk, h0])
    obtain rfl := empty_of s h0
    clear h0
    go_enter Tryd.func28, Tryd.ntmps28
    go_wp2
    go_ret
    exact ⟨ret_bool HN.out.symm, Below.refl _ _⟩
  have he := toList_ne s h0
  have he' : s.toList.isEmpty = false := by simpa using he
  by_cases h32 : 32 < s.size
  · have HN := Lib.hid (show nameOk s = false by simp [nameOk]; omega)
    go_enter Tryd.func28, Tryd.ntmps28
    go_wp2
    go_ret
    exact ⟨ret_bool HN.out.symm, Below.refl _ _⟩
  have HN := Lib.hid (show nameOk s = restOk s 0 by simp [nameOk]; intro _; omega)
  go_enter Tryd.func28, Tryd.ntmps28
  go_wp2
  go_loopw [4] (fun _ w' => ∃ pos : Nat, w' = w.iter s pos ∧ Hid (restOk s 0 = restOk s pos)) (fun _ w' => s.size - w'.iterPos w.heap.size)
  case atStart => exact ⟨0, rfl, rfl⟩
  case round =>
    obtain ⟨pos, rfl, HR⟩ := hrel
    by_cases hp : pos < s.size
    · have hnx : ∀ ty, (Instr.next (.pointer (some ⟨w.heap.size, 0, none⟩)) true ty).run Tryd.prog (w.iter s pos) = _ := fun ty => run_next_any w s pos ty hp
      have hwd := width_pos s pos hp
      have HW := Lib.hid (char_ways s pos hp)
      have HS := Lib.hid (restOk_step s pos hp)
      generalize hch : (Utf8.decode s pos).1 = ch at *
      generalize hwi : (Utf8.decode s pos).2 = wi at *
      go_wp2_with fail
      refine (mayBe_any ch _).mono ?_
      rintro e w2 ⟨rfl, rfl⟩
      rcases HW.out with ⟨hb, hb', h1⟩ | ⟨hb, hb'⟩
      · rw [hb]
        clear hwi
        subst h1
        go_wp2
        go_roundw
        case rel => exact ⟨pos + 1, rfl, by rw [Hid, HR.out, HS.out, hb']; rfl⟩
        case measure =>
          simp
          omega
      · rw [hb]
        go_wp2
        go_ret
        exact ⟨ret_bool (by rw [HN.out, HR.out, HS.out, hb']; rfl), (Below.refl _ _).alloc (Nat.le_refl _) _⟩
    · have hnx : ∀ ty, (Instr.next (.pointer (some ⟨w.heap.size, 0, none⟩)) true ty).run Tryd.prog (w.iter s pos) = _ := fun ty => run_next_end w s pos ty hp
      go_wp2
      go_ret
      exact ⟨ret_bool (by rw [HN.out, HR.out, restOk_end s pos hp]), (Below.refl _ _).alloc (Nat.le_refl _) _⟩

set_option maxHeartbeats 1000000 in
theorem Index_any (A : Option Addr) (zs : List ByteArray) (c : Nat) (x : ByteArray) (w : World) (hA : Rd Value.string w w.heap.size A zs) (hl : zs.length ≤ 9223372036854775807) :
    Calls Tryd.prog 25 #[.slice A zs.length c, .string x] w fun e w' => e = .returned (.int .i64 (Lib.idxOfS zs x)) ∧ w = w' := by
  go_enter Tryd.func25, Tryd.ntmps25
  go_wp2
  go_loop [8] (fun i => ∃ k : Nat, k ≤ zs.length ∧ i = .int .i64 k ∧ Hid (Lib.idxOfS zs x = Lib.idxFromS (zs.drop k) x k))
    (fun i => zs.length - (intOf i).toNat)
  case atStart => exact ⟨0, Nat.zero_le _, rfl, rfl⟩
  case round =>
    obtain ⟨k, hk, rfl, HR⟩ := hrel
    by_cases hlt : k < zs.length
    · obtain ⟨b, off, rfl, hb, hc⟩ := hA.at_ hlt
      have HS := Lib.hid (idx_step zs x k hlt)
      generalize zs[k] = z at hc HS
      by_cases hz : z = x
      · have hq : (x.toList == z.toList) = true := (Lib.bytes_beq_iff _ _).2 hz.symm
        have Z := Lib.hid hz
        clear hz
        go_wp2
        go_ret
        exact ⟨ret_int (by rw [HR.out, HS.out, if_pos Z.out]), rfl⟩
      · have hq : (x.toList == z.toList) = false := (Lib.bytes_beq_false_iff _ _).2 fun h => hz h.symm
        have Z := Lib.hid hz
        clear hz
        go_wp2
        go_round
        case rel => exact ⟨k + 1, by omega, by go_num, by rw [Hid, HR.out, HS.out, if_neg Z.out]⟩
        case measure => simp [intOf]; omega
    · go_wp2
      go_ret
      exact ⟨ret_int (by rw [HR.out, idx_end zs x k (by omega)]), rfl⟩

set_option maxHeartbeats 1000000 in
theorem find_any (A : Option Addr) (zs : List ByteArray) (c : Nat) (x : ByteArray) (w : World) (hA : Rd Value.string w w.heap.size A zs) (hl : zs.length ≤ 9223372036854775807) :
    Calls Tryd.prog 27 #[.slice A zs.length c, .string x] w fun e w' => e = .returned (.int .i64 (Lib.idxOfS zs x)) ∧ w = w' := by
  go_enter Tryd.func27, Tryd.ntmps27
  go_wp2
  go_loop [9] (fun i => ∃ k : Nat, k ≤ zs.length ∧ i = .int .i64 k ∧ Hid (Lib.idxOfS zs x = Lib.idxFromS (zs.drop k) x k))
    (fun i => zs.length - (intOf i).toNat)
  case atStart => exact ⟨0, Nat.zero_le _, rfl, rfl⟩
  case round =>
    obtain ⟨k, hk, rfl, HR⟩ := hrel
    by_cases hlt : k < zs.length
    · obtain ⟨b, off, rfl, hb, hc⟩ := hA.at_ hlt
      have HS := Lib.hid (idx_step zs x k hlt)
      generalize zs[k] = z at hc HS
      by_cases hz : z = x
      · have hq : (z.toList == x.toList) = true := (Lib.bytes_beq_iff _ _).2 hz
        have Z := Lib.hid hz
        clear hz
        go_wp2
        go_ret
        exact ⟨ret_int (by rw [HR.out, HS.out, if_pos Z.out]), rfl⟩
      · have hq : (z.toList == x.toList) = false := (Lib.bytes_beq_false_iff _ _).2 hz
        have Z := Lib.hid hz
        clear hz
        go_wp2
        go_round
        case rel => exact ⟨k + 1, by omega, by go_num, by rw [Hid, HR.out, HS.out, if_neg Z.out]⟩
        case measure => simp [intOf]; omega
    · go_wp2
      go_ret
      exact ⟨ret_int (by rw [HR.out, idx_end zs x k (by omega)]), rfl⟩

set_option maxHeartbeats 1000000 in
theorem Contains_any (A : Option Addr) (zs : List ByteArray) (n c : Nat) (x : ByteArray) (w : World) (hn : zs.length = n) (hA : Rd Value.string w w.heap.size A zs) (hl : zs.length ≤ 9223372036854775807) :
    Calls Tryd.prog 29 #[.slice A n c, .string x] w fun e w' => e = .returned (.bool (Lib.containsS zs x)) ∧ w = w' := by
  subst hn
  go_enter Tryd.func29, Tryd.ntmps29
  go_wp2_with fail
  refine (Index_any A zs c x _ hA hl).mono ?_
  rintro e w2 ⟨rfl, rfl⟩
  go_wp2
  go_ret
  exact ⟨rfl, rfl⟩

theorem name_parts (s : ByteArray) : (nameOk s = false ∧ restOk s 0 = false) ∨ (restOk s 0 = true ∧ ((nameOk s = false ∧ s.size = 0) ∨ (nameOk s = false ∧ 32 < s.size) ∨ (nameOk s = true ∧ 1 ≤ s.size ∧ s.size ≤ 32))) := by
  unfold nameOk
  cases restOk s 0
  · exact .inl ⟨Bool.and_false _, rfl⟩
  · rcases Nat.lt_or_ge s.size 1 with h1 | h1
    · exact .inr ⟨rfl, .inl ⟨by rw [decide_eq_false (by omega : ¬ 1 ≤ s.size)]; rfl, by omega⟩⟩
    · rcases Nat.lt_or_ge 32 s.size with h2 | h2
      · exact .inr ⟨rfl, .inr (.inl ⟨by rw [decide_eq_false (by omega : ¬ s.size ≤ 32), Bool.and_false]; rfl, h2⟩)⟩
      · exact .inr ⟨rfl, .inr (.inr ⟨by rw [decide_eq_true h1, decide_eq_true h2]; rfl, h1, h2⟩)⟩

set_option maxHeartbeats 1000000 in
theorem refName_any (s : ByteArray) (w : World) (hs : s.size ≤ 9223372036854775807) :
    Calls Tryd.prog 30 #[.string s] w fun e w' => e = .returned (.bool (nameOk s)) ∧ w = w' := by
  have HN := Lib.hid (name_parts s)
  go_enter Tryd.func30, Tryd.ntmps30
  go_wp2
  go_loop [3] (fun i => ∃ k : Nat, k ≤ s.size ∧ i = .int .i64 k ∧ Hid (restOk s 0 = restOk s k))
    (fun i => s.size - (intOf i).toNat)
  case atStart => exact ⟨0, Nat.zero_le _, rfl, rfl⟩
  case round =>
    obtain ⟨k, hk, rfl, HR⟩ := hrel
    by_cases hlt : k < s.size
    · have HS := Lib.hid (restOk_step s k hlt)
      have hgo : letN (s[k]'hlt).toNat = false → nameOk s = false := fun h => by
        rcases HN.out with ⟨h1, _⟩ | ⟨h1, _⟩
        · exact h1
        · rw [HR.out, HS.out, h] at h1
          cases h1
      have hlow : (s[k]'hlt).toNat < 256 := (s[k]'hlt).toNat_lt
      have HG := Lib.hid hgo
      clear hgo
      generalize hch : (s[k]'hlt).toNat = ch at HS HG hlow
      rcases letN_ways ch with ⟨h, hb⟩ | ⟨rfl, hb⟩ | ⟨h, h', hb⟩ | ⟨h, h', hb⟩ | ⟨h, h', hb⟩ | ⟨h, h', hb⟩ | ⟨h, hb⟩
      all_goals
        have HB := Lib.hid hb
        clear hb
        go_wp2
      all_goals first
        | (go_round
           case rel => exact ⟨k + 1, by omega, by go_num, by rw [Hid, HR.out, HS.out, HB.out]; rfl⟩
           case measure => simp [intOf]; omega)
        | (go_ret
           exact ⟨ret_bool (HG.out HB.out).symm, rfl⟩)
        | (exfalso
           simp only [bne_eq_false_iff_eq] at *
           omega)
    · have he := HR.out.trans (restOk_end s k hlt)
      rcases HN.out with ⟨_, h1⟩ | ⟨_, ⟨h1, h2⟩ | ⟨h1, h2⟩ | ⟨h1, h2, h3⟩⟩
      · rw [he] at h1
        cases h1
      all_goals
        have H1 := Lib.hid h1
        clear h1 he
        go_wp2
        go_ret
        exact ⟨ret_bool (by first | exact H1.out.symm | (rw [H1.out]; simp; omega)), rfl⟩

end Go.Proofs.YtepngkhepcjdfaaDoor
