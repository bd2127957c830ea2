/- bitset.Of by contract: the words that it makes of numbers. -/
import Derived.Test.YtepngkhepcjdfaaDoorBitWalks
namespace Go.Proofs.YtepngkhepcjdfaaDoor
open Go.RowKit

theorem own_slice {w : World} {base : Nat} {e : TypeId} {size n : Nat} {v : Value} {xs : List Value} (h : w.ownsRow base e size v n xs) : ∃ A c, v = .slice A n c ∧ n ≤ c ∧ c ≤ 9223372036854775807 := by
  rcases h.2 with ⟨rfl, h0⟩ | ⟨g', cap, cur, rfl, _, _, hn, hm, _⟩
  · exact ⟨none, 0, by rw [h0], by omega, by omega⟩
  · exact ⟨_, _, rfl, hn, by unfold maxLen at hm; omega⟩

theorem own_pos {w : World} {base : Nat} {e : TypeId} {size n c : Nat} {A : Option Addr} {xs : List Value} (h : w.ownsRow base e size (.slice A n c) n xs) (hn : 0 < n) : ∃ g, A = some ⟨g, 0, none⟩ ∧ base ≤ g ∧ g < w.heap.size := by
  rcases h.2 with ⟨_, h0⟩ | ⟨g', cap, cur, hv, hg, hh, _⟩
  · omega
  · injection hv with hv _ _
    exact ⟨g', hv, hg, (Array.getElem?_eq_some_iff.1 hh).1⟩

theorem own_base {w w' : World} {B base : Nat} {e : TypeId} {size n : Nat} {v : Value} {xs : List Value} {a : World} (h : w.ownsRow base e size v n xs) (hb : Below B a w) (hbase : B ≤ base) (hsz : B ≤ w.heap.size) (hg : w.grownBy w' v.ownBlock) : Below B a w' :=
  hb.grown hg hsz (fun g he => by
    rcases h.2 with ⟨rfl, _⟩ | ⟨g', cap, cur, rfl, hg', _⟩
    · simp [Value.ownBlock] at he
    · simp [Value.ownBlock] at he; omega)

theorem or_bit_int (x : Int) (k : Nat) (hk : k < 64) (h0 : 0 ≤ x) (h1 : x ≤ 18446744073709551615) : bits .or .u64 x (IntKind.u64.wrap (2 ^ k)) = orBit x k := by
  obtain ⟨X, rfl⟩ := Int.eq_ofNat_of_zero_le h0
  have hp : (2 : Int) ^ k = ((2 ^ k : Nat) : Int) := by simp
  have hlt : 2 ^ k < 2 ^ 64 := Nat.pow_lt_pow_right (by decide) hk
  have h64 : 2 ^ 64 = 18446744073709551616 := by decide
  have hor := or_bit X k
  unfold orBit
  rw [hp, ← Int.natCast_ediv]
  generalize 2 ^ k = p at *
  rw [IntKind.wrap_u64, Int.emod_eq_of_lt (by omega) (by omega), bits_or_u64 (X : Int) (p : Int) (by omega) (by omega) (by omega) (by omega), Int.toNat_natCast, Int.toNat_natCast, hor]
  generalize X / p = q at *
  by_cases h : q % 2 = 1
  · rw [if_pos h, if_pos (by omega)]
  · rw [if_neg h, if_neg (by omega)]
    omega

theorem ofStep_len (ws : List Int) (n : Int) (h : ws.length ≤ 64) : (ofStep ws n).length ≤ 64 := by
  unfold ofStep
  split
  · exact h
  · rw [List.length_set, padTo_length]
    omega

theorem ofStep_words (ws : List Int) (n : Int) (h : Words ws) : Words (ofStep ws n) := by
  unfold ofStep
  split
  · exact h
  · have hp := h.pad ((n / 64).toNat + 1)
    have hg := hp.getD (n / 64).toNat
    have ho := orBit_range _ (n % 64).toNat (by omega) hg.1 hg.2
    exact hp.set _ _ ho.1 ho.2

theorem ofFold_len (l ws : List Int) (h : ws.length ≤ 64) : (l.foldl ofStep ws).length ≤ 64 := by
  induction l generalizing ws with
  | nil => exact h
  | cons n r ih => exact ih _ (ofStep_len ws n h)
theorem ofFold_words (l ws : List Int) (h : Words ws) : Words (l.foldl ofStep ws) := by
  induction l generalizing ws with
  | nil => exact h
  | cons n r ih => exact ih _ (ofStep_words ws n h)
theorem ofL_len (l : List Int) : (ofL l).length ≤ 64 := ofFold_len l [] (by simp)
theorem ofL_words (l : List Int) : Words (ofL l) := ofFold_words l [] (by intro z hz; cases hz)

theorem of_step (zs : List Int) (k : Nat) (hk : k < zs.length) : ofL (zs.take (k + 1)) = ofStep (ofL (zs.take k)) zs[k] := by
  unfold ofL
  rw [List.take_add_one, List.getElem?_eq_getElem hk, List.foldl_append]
  rfl

/-- A list of words comes back in new memory. -/
def WordsOut (ws : List Int) (w : World) (e : Ending) (w' : World) : Prop :=
  ∃ A c, e = .returned (.slice A ws.length c) ∧ Rd (Value.int .u64) w' w'.heap.size A ws ∧ ws.length ≤ c ∧ c ≤ 9223372036854775807 ∧ Below w.heap.size w w'

theorem info_word : (Tryd.prog.info? 23).map (fun i => (i.zero, i.size, i.bytes)) = some (some (.int .u64 0), 1, 8) := by kernel_rfl


end Go.Proofs.YtepngkhepcjdfaaDoor
