/- Plain mathematics of bits: how many bits of a number are set, by bytes; what it is to set one. Nothing of the program stands here. -/
import Derived.Test.YtepngkhepcjdfaaDoorMem
namespace Go.Proofs.YtepngkhepcjdfaaDoor

/-- How many of the n lowest bits are set. -/
def pop : Nat → Nat → Nat
  | 0, _ => 0
  | n + 1, x => x % 2 + pop n (x / 2)

theorem pop_add (m n x : Nat) : pop (m + n) x = pop m x + pop n (x / 2 ^ m) := by
  induction m generalizing x with
  | zero => simp [pop]
  | succ m ih =>
    rw [show m + 1 + n = (m + n) + 1 from by omega, pop, pop, ih, Nat.div_div_eq_div_mul, show 2 * 2 ^ m = 2 ^ (m + 1) from by rw [Nat.pow_succ, Nat.mul_comm]]
    omega

theorem pop_mod (m x k : Nat) (h : m ≤ k) : pop m (x % 2 ^ k) = pop m x := by
  induction m generalizing x k with
  | zero => rfl
  | succ m ih =>
    obtain ⟨j, rfl⟩ : ∃ j, k = j + 1 := ⟨k - 1, by omega⟩
    have h1 : x % 2 ^ (j + 1) % 2 = x % 2 := Nat.mod_mod_of_dvd _ (by rw [Nat.pow_succ]; exact Nat.dvd_mul_left _ _)
    have h2 : x % 2 ^ (j + 1) / 2 = x / 2 % 2 ^ j := by
      rw [Nat.pow_succ, Nat.mul_comm, Nat.mod_mul_right_div_self]
    rw [pop, pop, h1, h2, ih (x / 2) j (by omega)]

theorem pop_le (m x : Nat) : pop m x ≤ m := by
  induction m generalizing x with
  | zero => exact Nat.le_refl _
  | succ m ih =>
    have := ih (x / 2)
    rw [pop]
    omega

/-- A number of its bytes, the lowest first. -/
def ofBytes : List Nat → Nat
  | [] => 0
  | b :: r => b + 256 * ofBytes r

def toBytes : Nat → Nat → List Nat
  | 0, _ => []
  | n + 1, x => x % 256 :: toBytes n (x / 256)

theorem ofBytes_toBytes (n x : Nat) (h : x < 256 ^ n) : ofBytes (toBytes n x) = x := by
  induction n generalizing x with
  | zero => simp at h; subst h; rfl
  | succ n ih =>
    rw [toBytes, ofBytes, ih (x / 256) (by rw [Nat.pow_succ] at h; omega)]
    omega

theorem toBytes_lt (n x : Nat) : ∀ b ∈ toBytes n x, b < 256 := by
  induction n generalizing x with
  | zero => intro b hb; cases hb
  | succ n ih =>
    intro b hb
    rw [toBytes] at hb
    rcases List.mem_cons.1 hb with rfl | hb
    · exact Nat.mod_lt _ (by decide)
    · exact ih _ b hb

theorem toBytes_length (n x : Nat) : (toBytes n x).length = n := by
  induction n generalizing x with
  | zero => rfl
  | succ n ih => simp [toBytes, ih]

theorem pop_bytes (n x : Nat) : pop (8 * n) x = ((toBytes n x).map (pop 8)).sum := by
  induction n generalizing x with
  | zero => rfl
  | succ n ih =>
    rw [show 8 * (n + 1) = 8 + 8 * n from by omega, pop_add, toBytes, List.map_cons, List.sum_cons, ih]
    rw [show (256 : Nat) = 2 ^ 8 from rfl, pop_mod 8 x 8 (Nat.le_refl _)]

theorem and_bytes (a b x y : Nat) (ha : a < 256) (hb : b < 256) : (a + 256 * x) &&& (b + 256 * y) = (a &&& b) + 256 * (x &&& y) := by
  have h1 := @Nat.and_mod_two_pow (a + 256 * x) (b + 256 * y) 8
  have h2 := @Nat.and_div_two_pow (a + 256 * x) (b + 256 * y) 8
  rw [show (2 : Nat) ^ 8 = 256 from rfl] at h1 h2
  rw [show (a + 256 * x) % 256 = a from by omega, show (b + 256 * y) % 256 = b from by omega] at h1
  rw [show (a + 256 * x) / 256 = x from by omega, show (b + 256 * y) / 256 = y from by omega] at h2
  omega

def rep (c : Nat) : Nat → Nat
  | 0 => 0
  | n + 1 => c + 256 * rep c n

/-- The first step of the count, byte by byte: the bits of each byte in pairs. -/
def pairs (b : Nat) : Nat := (b / 2 &&& 85) + (b &&& 85)
def fours (b : Nat) : Nat := (b / 4 &&& 51) + (b &&& 51)
def eights (b : Nat) : Nat := (b / 16 + b) &&& 15

theorem byte_pairs : ∀ b, b < 256 → ∀ d, d < 2 → (b / 2 + 128 * d) &&& 85 = b / 2 &&& 85 := by decide +kernel
theorem byte_fours : ∀ b, b < 256 → ∀ d, d < 4 → (b / 4 + 64 * d) &&& 51 = b / 4 &&& 51 := by decide +kernel
theorem pairs_le : ∀ b, b < 256 → pairs b < 256 := by decide +kernel
theorem fours_le : ∀ b, b < 256 → fours b ≤ 102 := by decide +kernel
theorem byte_all : ∀ b, b < 256 → fours (pairs b) / 16 ≤ 4 ∧ fours (pairs b) % 16 ≤ 4 ∧ fours (pairs b) < 256 ∧ eights (fours (pairs b)) = pop 8 b := by decide +kernel

theorem step_pairs (bs : List Nat) (h : ∀ b ∈ bs, b < 256) : (ofBytes bs / 2 &&& rep 85 bs.length) + (ofBytes bs &&& rep 85 bs.length) = ofBytes (bs.map pairs) := by
  induction bs with
  | nil => rfl
  | cons b r ih =>
    have hb := h b (List.mem_cons_self ..)
    have hr := ih (fun x hx => h x (List.mem_cons_of_mem _ hx))
    have hd := byte_pairs b hb (ofBytes r % 2) (Nat.mod_lt _ (by decide))
    have e : (b + 256 * ofBytes r) / 2 = (b / 2 + 128 * (ofBytes r % 2)) + 256 * (ofBytes r / 2) := by omega
    simp only [ofBytes, rep, List.length_cons, List.map_cons]
    rw [e, and_bytes _ _ _ _ (by omega) (by decide), and_bytes _ _ _ _ hb (by decide), hd, ← hr, pairs]
    omega

theorem step_fours (bs : List Nat) (h : ∀ b ∈ bs, b < 256) : (ofBytes bs / 4 &&& rep 51 bs.length) + (ofBytes bs &&& rep 51 bs.length) = ofBytes (bs.map fours) := by
  induction bs with
  | nil => rfl
  | cons b r ih =>
    have hb := h b (List.mem_cons_self ..)
    have hr := ih (fun x hx => h x (List.mem_cons_of_mem _ hx))
    have hd := byte_fours b hb (ofBytes r % 4) (Nat.mod_lt _ (by decide))
    have e : (b + 256 * ofBytes r) / 4 = (b / 4 + 64 * (ofBytes r % 4)) + 256 * (ofBytes r / 4) := by omega
    simp only [ofBytes, rep, List.length_cons, List.map_cons]
    rw [e, and_bytes _ _ _ _ (by omega) (by decide), and_bytes _ _ _ _ hb (by decide), hd, ← hr, fours]
    omega

theorem byte_eights : ∀ b, b < 256 → b / 16 ≤ 4 → b % 16 ≤ 4 → ∀ d, d < 5 → b / 16 + b + 16 * d < 256 ∧ (b / 16 + b + 16 * d) &&& 15 = eights b := by decide +kernel

theorem step_eights (bs : List Nat) (h : ∀ b ∈ bs, b < 256 ∧ b / 16 ≤ 4 ∧ b % 16 ≤ 4) : ofBytes bs % 16 ≤ 4 ∧ (ofBytes bs / 16 + ofBytes bs) &&& rep 15 bs.length = ofBytes (bs.map eights) := by
  induction bs with
  | nil => exact ⟨by decide, rfl⟩
  | cons b r ih =>
    obtain ⟨hb, hb1, hb2⟩ := h b (List.mem_cons_self ..)
    obtain ⟨hm, hr⟩ := ih (fun x hx => h x (List.mem_cons_of_mem _ hx))
    obtain ⟨hd1, hd2⟩ := byte_eights b hb hb1 hb2 (ofBytes r % 16) (by omega)
    have e : (b + 256 * ofBytes r) / 16 + (b + 256 * ofBytes r) = (b / 16 + b + 16 * (ofBytes r % 16)) + 256 * (ofBytes r / 16 + ofBytes r) := by omega
    simp only [ofBytes, rep, List.length_cons, List.map_cons]
    refine ⟨by omega, ?_⟩
    rw [e, and_bytes _ _ _ _ hd1 (by decide), hd2, ← hr]

/-- The last steps: eight small numbers, each in a byte, are added. -/
theorem sum_eight (p0 p1 p2 p3 p4 p5 p6 p7 y : Nat) (h0 : p0 ≤ 8) (h1 : p1 ≤ 8) (h2 : p2 ≤ 8) (h3 : p3 ≤ 8) (h4 : p4 ≤ 8) (h5 : p5 ≤ 8) (h6 : p6 ≤ 8) (h7 : p7 ≤ 8)
    (hy : y = ofBytes [p0, p1, p2, p3, p4, p5, p6, p7]) :
    y < 2 ^ 60 ∧ (y + y / 256) < 2 ^ 61 ∧ (y + y / 256) + (y + y / 256) / 65536 < 2 ^ 62 ∧
      ((y + y / 256) + (y + y / 256) / 65536 + ((y + y / 256) + (y + y / 256) / 65536) / 4294967296) < 2 ^ 63 ∧
      ((y + y / 256) + (y + y / 256) / 65536 + ((y + y / 256) + (y + y / 256) / 65536) / 4294967296) % 128 = p0 + p1 + p2 + p3 + p4 + p5 + p6 + p7 := by
  obtain ⟨z7, e7⟩ : ∃ z, z = p7 + 256 * ofBytes [] := ⟨_, rfl⟩
  obtain ⟨z6, e6⟩ : ∃ z, z = p6 + 256 * z7 := ⟨_, rfl⟩
  obtain ⟨z5, e5⟩ : ∃ z, z = p5 + 256 * z6 := ⟨_, rfl⟩
  obtain ⟨z4, e4⟩ : ∃ z, z = p4 + 256 * z5 := ⟨_, rfl⟩
  obtain ⟨z3, e3⟩ : ∃ z, z = p3 + 256 * z4 := ⟨_, rfl⟩
  obtain ⟨z2, e2⟩ : ∃ z, z = p2 + 256 * z3 := ⟨_, rfl⟩
  obtain ⟨z1, e1⟩ : ∃ z, z = p1 + 256 * z2 := ⟨_, rfl⟩
  have e0 : y = p0 + 256 * z1 := by rw [hy, e1, e2, e3, e4, e5, e6, e7]; rfl
  clear hy
  simp only [ofBytes, Nat.mul_zero, Nat.add_zero] at e7
  have b6 : z6 ≤ 2056 := by omega
  have b5 : z5 ≤ 526344 := by omega
  have b4 : z4 ≤ 134744072 := by omega
  have b3 : z3 ≤ 34494482440 := by omega
  have b2 : z2 ≤ 8830587504648 := by omega
  have b1 : z1 ≤ 2260630401189896 := by omega
  have b0 : y ≤ 578721382704613384 := by omega
  have d1 : y / 256 = z1 := by clear e7 e6 e5 e4 e3 e2 e1; omega
  rw [d1]
  obtain ⟨s0, f0⟩ : ∃ s, s = y + z1 := ⟨_, rfl⟩
  obtain ⟨s2, f2⟩ : ∃ s, s = z2 + z3 := ⟨_, rfl⟩
  rw [← f0]
  have g0 : s0 = (p0 + p1) + 256 * (p1 + p2) + 65536 * s2 := by clear e7 e6 e5 e4; omega
  have d2 : s0 / 65536 = s2 := by clear e7 e6 e5 e4 e3 e2 e1 e0 f0 f2; omega
  rw [d2]
  obtain ⟨t0, k0⟩ : ∃ s, s = s0 + s2 := ⟨_, rfl⟩
  obtain ⟨t4, k4⟩ : ∃ s, s = z4 + z5 + (z6 + z7) := ⟨_, rfl⟩
  rw [← k0]
  have g2 : s2 = (p2 + p3) + 256 * (z3 + z4) := by clear e7 e6 e5 e4 e1 e0 f0 g0 d2 d1 k0 k4; omega
  have g3 : z3 + z4 = (p3 + p4) + 256 * (z4 + z5) := by clear e7 e6 e5 e2 e1 e0 f0 g0 d2 d1 k0 k4; omega
  have g4 : z4 + z5 = (p4 + p5) + 256 * (z5 + z6) := by clear e7 e6 e3 e2 e1 e0 f0 g0 d2 d1 k0 k4; omega
  have g5 : z5 + z6 = (p5 + p6) + 256 * (z6 + z7) := by clear e7 e4 e3 e2 e1 e0 f0 g0 d2 d1 k0 k4; omega
  have g6 : t0 = (p0 + p1 + p2 + p3) + 256 * (p1 + p2 + p3 + p4) + 65536 * (p2 + p3 + p4 + p5) + 16777216 * (p3 + p4 + p5 + p6) + 4294967296 * t4 := by clear e7 e6 e5 e4 e3 e2 e1 e0 f0 f2 d1 d2; omega
  have d3 : t0 / 4294967296 = t4 := by clear e7 e6 e5 e4 e3 e2 e1 e0 f0 f2 g0 g2 g3 g4 g5 k0 k4 d1 d2; omega
  rw [d3]
  have g7 : t4 = (p4 + p5 + p6 + p7) + 256 * (z5 + z6 + z7) := by clear e4 e3 e2 e1 e0 f0 f2 g0 g2 g3 d1 d2 d3 g6 k0; omega
  refine ⟨by omega, by clear e7 e6 e5 e4 e3 e2; omega, by clear e7 e6 e5 e4; omega, by clear g6 g7 g2 g3 g4 g5 g0; omega, ?_⟩
  have e9 : (t0 + t4) = (p0 + p1 + p2 + p3 + p4 + p5 + p6 + p7) + 256 * ((p1 + p2 + p3 + p4) + 256 * (p2 + p3 + p4 + p5) + 65536 * (p3 + p4 + p5 + p6) + 16777216 * t4 + (z5 + z6 + z7)) := by clear e7 e6 e5 e4 e3 e2 e1 e0 f0 f2 g0 g2 g3 g4 g5 k0 k4 d1 d2 d3; omega
  rw [e9]
  clear e7 e6 e5 e4 e3 e2 e1 e0 f0 f2 g0 g2 g3 g4 g5 k0 k4 d1 d2 d3 g6 g7 e9
  omega

/-- To set a bit. -/
theorem or_bit (X k : Nat) : X ||| 2 ^ k = if X / 2 ^ k % 2 = 1 then X else X + 2 ^ k := by
  have hr : X % 2 ^ k < 2 ^ k := Nat.mod_lt _ (Nat.two_pow_pos k)
  have hd : X = 2 ^ k * (X / 2 ^ k) + X % 2 ^ k := (Nat.div_add_mod _ _).symm
  generalize X % 2 ^ k = r at *
  generalize X / 2 ^ k = q at *
  have e1 : 2 ^ k * q + r = 2 ^ k * q ||| r := Nat.two_pow_add_eq_or_of_lt hr q
  have e2 : ∀ q', 2 ^ k * q' + r = 2 ^ k * q' ||| r := fun q' => Nat.two_pow_add_eq_or_of_lt hr q'
  have e3 : 2 ^ k * q ||| 2 ^ k = 2 ^ k * (q ||| 1) := by
    have := Nat.shiftLeft_or_distrib (a := q) (b := 1) (i := k)
    rw [Nat.shiftLeft_eq, Nat.shiftLeft_eq, Nat.shiftLeft_eq, Nat.one_mul] at this
    rw [Nat.mul_comm (2 ^ k) q, ← this, Nat.mul_comm]
  have e4 : q ||| 1 = if q % 2 = 1 then q else q + 1 := by
    have h1 := Nat.two_pow_add_eq_or_of_lt (i := 1) (b := 1) (by decide) (q / 2)
    have h2 : (q ||| 1) = 2 * (q / 2) + 1 := by
      rw [Nat.pow_one] at h1
      rcases Nat.mod_two_eq_zero_or_one q with h | h
      · rw [show 2 * (q / 2) = q from by omega] at h1 ⊢
        exact h1.symm
      · have h3 : q = 2 * (q / 2) ||| 1 := by rw [← h1]; omega
        calc q ||| 1 = (2 * (q / 2) ||| 1) ||| 1 := by rw [← h3]
          _ = 2 * (q / 2) ||| 1 := by rw [Nat.or_assoc, Nat.or_self]
          _ = 2 * (q / 2) + 1 := h1.symm
    rw [h2]
    split <;> omega
  calc X ||| 2 ^ k = (2 ^ k * q ||| r) ||| 2 ^ k := by rw [← e1, ← hd]
    _ = (2 ^ k * q ||| 2 ^ k) ||| r := by rw [Nat.or_assoc, Nat.or_comm r, ← Nat.or_assoc]
    _ = 2 ^ k * (q ||| 1) ||| r := by rw [e3]
    _ = 2 ^ k * (q ||| 1) + r := (e2 _).symm
    _ = if q % 2 = 1 then X else X + 2 ^ k := by
      rw [e4]
      split
      · exact hd.symm
      · rw [Nat.mul_add, Nat.mul_one]; omega

/-- A list that is made as long as wanted. -/
def padTo (ws : List Int) (m : Nat) : List Int := ws ++ List.replicate (m - ws.length) 0
def orBit (x : Int) (k : Nat) : Int := if x / 2 ^ k % 2 = 1 then x else x + 2 ^ k
/-- One number more goes into the words. -/
def ofStep (ws : List Int) (n : Int) : List Int :=
  if n < 0 ∨ 4096 ≤ n then ws else (padTo ws ((n / 64).toNat + 1)).set (n / 64).toNat (orBit ((padTo ws ((n / 64).toNat + 1)).getD (n / 64).toNat 0) (n % 64).toNat)
def ofL (l : List Int) : List Int := l.foldl ofStep []
/-- Is a number in the words? -/
def hasB (zs : List Int) (n : Int) : Bool := decide (0 ≤ n) && decide (n < 4096) && (zs.getD (n / 64).toNat 0 / 2 ^ (n % 64).toNat % 2 == 1)

/-- Every word of a list is one of 64 bits. -/
def Words (zs : List Int) : Prop := ∀ z ∈ zs, 0 ≤ z ∧ z ≤ 18446744073709551615

theorem padTo_length (ws : List Int) (m : Nat) : (padTo ws m).length = max ws.length m := by unfold padTo; rw [List.length_append, List.length_replicate]; omega

theorem Words.pad {ws : List Int} (h : Words ws) (m : Nat) : Words (padTo ws m) := by
  intro z hz
  rcases List.mem_append.1 hz with hz | hz
  · exact h z hz
  · rw [(List.mem_replicate.1 hz).2]; decide

theorem Words.set {ws : List Int} (h : Words ws) (k : Nat) (z : Int) (hz0 : 0 ≤ z) (hz1 : z ≤ 18446744073709551615) : Words (ws.set k z) := by
  intro u hu
  rcases List.mem_or_eq_of_mem_set hu with hu | rfl
  · exact h u hu
  · exact ⟨hz0, hz1⟩

theorem Words.getD {ws : List Int} (h : Words ws) (k : Nat) : 0 ≤ ws.getD k 0 ∧ ws.getD k 0 ≤ 18446744073709551615 := by
  rw [List.getD_eq_getElem?_getD]
  rcases hk : ws[k]? with _ | z
  · exact ⟨by decide, by decide⟩
  · exact h z (List.mem_of_getElem? hk)

theorem orBit_range (x : Int) (k : Nat) (hk : k < 64) (h0 : 0 ≤ x) (h1 : x ≤ 18446744073709551615) : 0 ≤ orBit x k ∧ orBit x k ≤ 18446744073709551615 := by
  obtain ⟨X, rfl⟩ := Int.eq_ofNat_of_zero_le h0
  have hp : (2 : Int) ^ k = ((2 ^ k : Nat) : Int) := by simp
  have hlt : X ||| 2 ^ k < 2 ^ 64 := Nat.or_lt_two_pow (by omega) (Nat.pow_lt_pow_right (by decide) hk)
  rw [or_bit] at hlt
  unfold orBit
  rw [hp, ← Int.natCast_ediv]
  by_cases h : X / 2 ^ k % 2 = 1
  · rw [if_pos (by omega)]; exact ⟨h0, h1⟩
  · rw [if_neg h] at hlt
    rw [if_neg (by omega)]
    generalize 2 ^ k = p at *
    omega

end Go.Proofs.YtepngkhepcjdfaaDoor
