/- edges.Right by contract, and plain maths of lists of neighbours. -/
import Derived.Test.YtamgmbjcobomhaaEdLists
namespace Go.Proofs.Ytamgmbjcobomhaa
open Go.RowKit Go.Shelf

theorem Has_k (A : Option Addr) (zs : List Int) (k c : Nat) (x : Int) (w : World) {B : Nat} (hA : Rd (Value.int .i64) w B A zs) (hl : zs.length ≤ 9223372036854775807) (hk : k ≤ zs.length) :
    Calls Try.prog 44 #[.slice A k c, .int .i64 x] w fun e w' => e = .returned (.bool (hasI (zs.take k) x)) ∧ w = w' := by
  have hln : (zs.take k).length = k := by rw [List.length_take]; omega
  have hA2 : Rd (Value.int .i64) w B A (zs.take k) := fun j z hz => by
    rw [List.getElem?_take] at hz
    split at hz
    · exact hA j z hz
    · cases hz
  have h := Has_any A (zs.take k) c x w hA2 (by omega)
  rw [hln] at h
  exact h

/-- May a number be a neighbour of self? -/
def goodN (self slots z : Int) : Prop := 1 ≤ z ∧ z ≤ slots ∧ ¬ z = self
/-- The first k are right among themselves. -/
def OkTo (zs : List Int) (self slots : Int) (k : Nat) : Prop := (zs.take k).Nodup ∧ ∀ z ∈ zs.take k, goodN self slots z
theorem OkTo.zero {zs : List Int} {self slots : Int} : OkTo zs self slots 0 := ⟨by simp, by simp⟩
theorem OkTo.snoc {zs : List Int} {self slots : Int} {k : Nat} (h : OkTo zs self slots k) (hk : k < zs.length) (hg : goodN self slots zs[k]) (hn : hasI (zs.take k) zs[k] = false) : OkTo zs self slots (k + 1) := by
  rw [hasI_not] at hn
  unfold OkTo
  rw [List.take_succ_eq_append_getElem hk]
  refine ⟨?_, ?_⟩
  · rw [List.nodup_append]
    exact ⟨h.1, by simp, fun a ha b hb e => by simp at hb; subst hb; subst e; exact hn ha⟩
  · intro z hz
    rcases List.mem_append.1 hz with hz | hz
    · exact h.2 z hz
    · simp at hz; subst hz; exact hg
/-- May the list be? -/
def rightB (zs : List Int) (self links level slots : Int) : Bool := decide ((zs.length : Int) ≤ mostZ links level ∧ zs.Nodup ∧ ∀ z ∈ zs, 1 ≤ z ∧ z ≤ slots ∧ ¬ z = self)
theorem rightB_iff (zs : List Int) (self links level slots : Int) : rightB zs self links level slots = true ↔ ((zs.length : Int) ≤ mostZ links level ∧ zs.Nodup ∧ ∀ z ∈ zs, goodN self slots z) := by
  unfold rightB
  exact decide_eq_true_iff
theorem rightB_no {zs : List Int} {self links level slots : Int} (h : ¬ ((zs.length : Int) ≤ mostZ links level ∧ zs.Nodup ∧ ∀ z ∈ zs, goodN self slots z)) : rightB zs self links level slots = false := by
  cases e : rightB zs self links level slots
  · rfl
  · exact absurd ((rightB_iff _ _ _ _ _).1 e) h
theorem right_long {zs : List Int} {self links level slots : Int} (h : mostZ links level < (zs.length : Int)) : rightB zs self links level slots = false := rightB_no fun k => by have := k.1; omega
theorem right_bad {zs : List Int} {self links level slots : Int} {k : Nat} (hk : k < zs.length) (h : ¬ goodN self slots zs[k]) : rightB zs self links level slots = false := rightB_no fun e => h (e.2.2 _ (List.getElem_mem hk))
theorem right_twice {zs : List Int} {self links level slots : Int} {k : Nat} (hk : k < zs.length) (h : hasI (zs.take k) zs[k] = true) : rightB zs self links level slots = false := rightB_no fun e => by
  rw [hasI_iff] at h
  obtain ⟨j, hj, he⟩ := List.mem_iff_getElem.1 h
  rw [List.length_take] at hj
  rw [List.getElem_take] at he
  exact List.pairwise_iff_getElem.1 e.2.1 j k (by omega) hk (by omega) he
theorem right_all {zs : List Int} {self links level slots : Int} (h : OkTo zs self slots zs.length) (hl : (zs.length : Int) ≤ mostZ links level) : rightB zs self links level slots = true := by
  unfold OkTo at h
  rw [List.take_length] at h
  exact (rightB_iff _ _ _ _ _).2 ⟨hl, h.1, h.2⟩

set_option maxHeartbeats 4000000 in
theorem Right_any (A : Option Addr) (zs : List Int) (c : Nat) (self links level slots : Int) (w : World) {B : Nat} (hA : Rd (Value.int .i64) w B A zs) (hl : zs.length ≤ 100000) (hc : zs.length ≤ c) :
    Calls Try.prog 51 #[.slice A zs.length c, .int .i64 self, .int .i64 links, .int .i64 level, .int .i64 slots] w fun e w' => e = .returned (.bool (rightB zs self links level slots)) ∧ w = w' := by
  have hm := mostZ_le links level
  have HL := Lib.hid (fun h => right_long (zs := zs) (self := self) (links := links) (level := level) (slots := slots) h)
  have HA := Lib.hid (fun k => right_bad (zs := zs) (self := self) (links := links) (level := level) (slots := slots) (k := k))
  have HT := Lib.hid (fun k => right_twice (zs := zs) (self := self) (links := links) (level := level) (slots := slots) (k := k))
  have HE := Lib.hid (fun h => right_all (zs := zs) (self := self) (links := links) (level := level) (slots := slots) h)
  generalize rightB zs self links level slots = R at *
  by_cases hlong : mostZ links level < (zs.length : Int)
  · obtain rfl : R = false := HL.out hlong
    go_enter Try.func51, Try.ntmps51
    go_wp2_with fail
    refine (Most_any links level _).mono ?_
    rintro e w' ⟨rfl, rfl⟩
    generalize mostZ links level = m at *
    go_wp2
    go_ret
    exact ⟨rfl, rfl⟩
  · go_enter Try.func51, Try.ntmps51
    go_wp2_with fail
    refine (Most_any links level _).mono ?_
    rintro e w' ⟨rfl, rfl⟩
    generalize mostZ links level = m at *
    go_wp2
    go_loop [21] (fun i => ∃ k : Nat, k ≤ zs.length ∧ i = .int .i64 k ∧ Hid (OkTo zs self slots k)) (fun i => zs.length - (intOf i).toNat)
    case atStart => exact ⟨0, Nat.zero_le _, rfl, OkTo.zero⟩
    case round =>
      obtain ⟨k, hk, rfl, HO⟩ := hrel
      by_cases hlt : k < zs.length
      · have HB := Lib.hid (HA.out k hlt)
        have HW := Lib.hid (HT.out k hlt)
        have HS := Lib.hid (HO.out.snoc hlt)
        obtain ⟨b, off, rfl, hb, h0⟩ := hA k _ (List.getElem?_eq_getElem hlt)
        clear HA HT HE HL HO
        generalize zs[k] = z at *
        have hkl : (k : Int) < (zs.length : Int) := by omega
        have hk0 : (0 : Int) ≤ (k : Int) := by omega
        have hkc : (k : Int) ≤ (c : Int) := by omega
        by_cases h1 : z < 1
        · obtain rfl : R = false := HB.out (fun g => by have := g.1; omega)
          go_wp2
          go_ret
          exact ⟨rfl, rfl⟩
        · by_cases h2 : slots < z
          · obtain rfl : R = false := HB.out (fun g => by have := g.2.1; omega)
            go_wp2
            go_ret
            exact ⟨rfl, rfl⟩
          · by_cases h3 : z = self
            · obtain rfl : R = false := HB.out (fun g => g.2.2 h3)
              subst h3
              go_wp2
              go_ret
              exact ⟨rfl, rfl⟩
            · have HG : Hid (goodN self slots z) := ⟨by omega, by omega, h3⟩
              cases hh : hasI (zs.take k) z
              · have HH := Lib.hid hh
                clear hh
                go_wp2_with fail
                refine (Has_k _ zs k c z _ hA (by omega) hk).mono ?_
                rw [HH.out]
                rintro e w' ⟨rfl, rfl⟩
                go_wp2
                go_round
                case rel => exact ⟨k + 1, by omega, by go_num, HS.out HG.out HH.out⟩
                case measure => simp [intOf]; omega
              · obtain rfl : R = false := HW.out hh
                have HH := Lib.hid hh
                clear hh
                go_wp2_with fail
                refine (Has_k _ zs k c z _ hA (by omega) hk).mono ?_
                rw [HH.out]
                rintro e w' ⟨rfl, rfl⟩
                go_wp2
                go_ret
                exact ⟨rfl, rfl⟩
      · obtain rfl : k = zs.length := by omega
        obtain rfl : R = true := HE.out HO.out (by omega)
        go_wp2
        go_ret
        exact ⟨rfl, rfl⟩

end Go.Proofs.Ytamgmbjcobomhaa
