/- What the document's watch says (ganglionref18), beside what the program's says: plain mathematics. -/
import Derived.Test.YtdgmcaehadigaaaRacDo
namespace Go.Proofs.Ytdgmcaehadigaaa

/-- A clock at a place: as a value, and its numbers. -/
abbrev SyT := Int × (Value × List Int)
/-- A note: place, worker, time. -/
abbrev NT := (Int × Int) × Int
structure YX where
  ck : List SyT
  sy : List SyT
  wr : List NT
  rd : List NT
  cl : List ClT
def lookS (L : List SyT) (k : Int) : Option (Value × List Int) := (L.find? fun p => p.1 == k).map (·.2)
/-- Another clock at a place. -/
def putS (L : List SyT) (k : Int) (v : Value × List Int) : List SyT := match L.findIdx? (fun p => p.1 == k) with
  | some i => L.set i (k, v)
  | none => L ++ [(k, v)]
theorem lookS_none {L : List SyT} {k : Int} : lookS L k = none ↔ ∀ p ∈ L, p.1 ≠ k := by
  unfold lookS
  rw [Option.map_eq_none_iff, List.find?_eq_none]
  simp
theorem lookS_put (L : List SyT) (k j : Int) (v : Value × List Int) : lookS (putS L k v) j = if j = k then some v else lookS L j := by
  unfold putS
  cases h : L.findIdx? (fun p => p.1 == k) with
  | none =>
    rw [List.findIdx?_eq_none_iff] at h
    show lookS (L ++ [(k, v)]) j = _
    unfold lookS
    rw [List.find?_append]
    by_cases e : j = k
    · subst e
      rw [if_pos rfl]
      have : L.find? (fun p => p.1 == j) = none := List.find?_eq_none.2 (fun p hp => by simp [h p hp])
      rw [this]
      simp
    · rw [if_neg e]
      have : List.find? (fun p : SyT => p.1 == j) [(k, v)] = none := by simp; exact fun e2 => e e2.symm
      rw [this, Option.or_none]
  | some i =>
    obtain ⟨hi, h1, h2⟩ := List.findIdx?_eq_some_iff_getElem.1 h
    show lookS (L.set i (k, v)) j = _
    have hk1 : L[i].1 = k := by simpa using h1
    unfold lookS
    have hL : L = L.take i ++ L[i] :: L.drop (i + 1) := by
      rw [List.getElem_cons_drop, List.take_append_drop]
    have hS : L.set i (k, v) = L.take i ++ (k, v) :: L.drop (i + 1) := List.set_eq_take_append_cons_drop.trans (if_pos hi)
    by_cases e : j = k
    · subst e
      rw [if_pos rfl, hS, List.find?_append]
      have : (L.take i).find? (fun p => p.1 == j) = none := by
        rw [List.find?_eq_none]
        intro p hp
        obtain ⟨m, hm, e⟩ := List.mem_iff_getElem.1 hp
        rw [List.length_take] at hm
        rw [List.getElem_take] at e
        have := h2 m (by omega)
        rw [e] at this
        exact this
      rw [this]
      simp
    · rw [if_neg e, hS]
      conv => rhs; rw [hL]
      rw [List.find?_append, List.find?_append]
      have e1 : ¬ k = j := fun e2 => e e2.symm
      rw [List.find?_cons_of_neg (by simpa using e1), List.find?_cons_of_neg (by rw [hk1]; simpa using e1)]
theorem putS_mem {L : List SyT} {k : Int} {v : Value × List Int} {p : SyT} (h : p ∈ putS L k v) : p ∈ L ∨ p = (k, v) := by
  unfold putS at h
  split at h
  · exact List.mem_or_eq_of_mem_set h
  · rcases List.mem_append.1 h with h | h
    · exact .inl h
    · exact .inr (List.mem_singleton.1 h)
theorem putS_len (L : List SyT) (k : Int) (v : Value × List Int) : (putS L k v).length ≤ L.length + 1 := by
  unfold putS
  split
  · rw [List.length_set]; omega
  · rw [List.length_append]; exact Nat.le_refl _
/-- A worker's numbers, and a place's. -/
def ckN (y : YX) (k : Nat) : List Int := match lookS y.ck k with
  | some q => numL q.2
  | none => tickN zeroN k
def syN (y : YX) (p : Int) : List Int := match lookS y.sy p with
  | some q => numL q.2
  | none => zeroN
/-- What is noted of a place of data, of writes; of reads, by a worker. -/
def wrOf (L : List NT) (d : Int) : Option NT := L.find? fun n => n.1.1 == d
def rdOf (L : List NT) (d j : Int) : Option NT := L.find? fun n => n.1.1 == d && n.1.2 == j
/-- Both say one thing. -/
structure RelY (a : AX) (y : YX) : Prop where
  ck : ∀ k, k < 65 → ckN y k = a.N k
  sy : ∀ p, syN y p = a.pn p
  num : ∀ k, k < 65 → IsNum (a.N k)
  ws : ∀ n ∈ y.wr, a.wr n.1.1 = n.1.2 ∧ a.wt n.1.1 = n.2 ∧ (0 ≤ n.1.2 ∧ n.1.2 ≤ 64) ∧ n.2 ≤ (a.N n.1.2.toNat).getD n.1.2.toNat 0
  wn : ∀ d, (∀ n ∈ y.wr, n.1.1 ≠ d) → a.wt d = 0
  rs : ∀ n ∈ y.rd, a.rd n.1.1 n.1.2 = n.2 ∧ (0 ≤ n.1.2 ∧ n.1.2 ≤ 64) ∧ n.2 ≤ (a.N n.1.2.toNat).getD n.1.2.toNat 0
  rn : ∀ d j, (∀ n ∈ y.rd, ¬ (n.1.1 = d ∧ n.1.2 = j)) → a.rd d j = 0
  cl : y.cl = a.cl
/-- Does a worker know of a note? -/
def knownY (a : AX) (k : Nat) (n : NT) : Bool := decide (n.1.2 = k) || decide (n.2 ≤ atM (a.N k) n.1.2)
theorem knownY_is {a : AX} {k : Nat} (hk : k < 65) {n : NT} (hn : n.2 ≤ (a.N n.1.2.toNat).getD n.1.2.toNat 0) : knownY a k n = decide (n.2 ≤ atM (a.N k) n.1.2) := by
  unfold knownY
  by_cases e : n.1.2 = k
  · rw [decide_eq_true e, Bool.true_or, eq_comm, decide_eq_true_eq, e, atM_nat _ hk]
    rw [e, Int.toNat_natCast] at hn
    exact hn
  · rw [decide_eq_false e, Bool.false_or]
/-- The write that clashes, if there is one. -/
def badW (a : AX) (y : YX) (k : Nat) (d : Int) : Option NT := y.wr.find? fun n => decide (n.1.1 = d) && !knownY a k n
theorem RelY.badW {a : AX} {y : YX} (h : RelY a y) {k : Nat} (hk : k < 65) (d : Int) : (badW a y k d = none ∧ hidW a k d = false) ∨ ∃ n, badW a y k d = some n ∧ n.1 = (d, a.wr d) ∧ hidW a k d = true := by
  unfold Go.Proofs.Ytdgmcaehadigaaa.badW
  cases hf : y.wr.find? fun n => decide (n.1.1 = d) && !knownY a k n with
  | some n =>
    refine .inr ⟨n, rfl, ?_⟩
    have h1 := List.find?_some hf
    have hm := List.mem_of_find?_eq_some hf
    simp only [Bool.and_eq_true, decide_eq_true_eq, Bool.not_eq_true'] at h1
    obtain ⟨hd, hkn⟩ := h1
    obtain ⟨g1, g2, g3, g4⟩ := h.ws n hm
    rw [knownY_is hk g4] at hkn
    subst hd
    refine ⟨by rw [g1], ?_⟩
    unfold hidW
    rw [g1, g2, hkn]
    rfl
  | none =>
    refine .inl ⟨rfl, ?_⟩
    rw [List.find?_eq_none] at hf
    unfold hidW
    by_cases hx : ∃ n ∈ y.wr, n.1.1 = d
    · obtain ⟨n, hm, rfl⟩ := hx
      obtain ⟨g1, g2, g3, g4⟩ := h.ws n hm
      have := hf n hm
      simp only [decide_true, Bool.true_and, Bool.not_eq_true', Bool.not_eq_false] at this
      rw [knownY_is hk g4] at this
      rw [g1, g2, this]
      rfl
    · have h0 := h.wn d (fun n hm e => hx ⟨n, hm, e⟩)
      rw [h0]
      have : (0 : Int) ≤ atM (a.N k) (a.wr d) := by
        unfold atM
        split
        · exact (h.num k hk).2 _
        · exact Int.le_refl _
      rw [decide_eq_true this]
      rfl
/-- Is there none yet, or is its worker greater? -/
def ltO (n : NT) : Option NT → Bool
  | none => true
  | some m => decide (n.1.2 < m.1.2)
/-- The unknown read of the least worker, of those that were looked at. -/
def lst (a : AX) (k : Nat) (d : Int) : List NT → Option NT → Option NT
  | [], o => o
  | n :: r, o => lst a k d r (if (decide (n.1.1 = d) && !knownY a k n && ltO n o) = true then some n else o)
theorem lst_snoc (a : AX) (k : Nat) (d : Int) (n : NT) : ∀ (L : List NT) (o : Option NT), lst a k d (L ++ [n]) o = (if (decide (n.1.1 = d) && !knownY a k n && ltO n (lst a k d L o)) = true then some n else lst a k d L o)
  | [], _ => rfl
  | _ :: r, _ => lst_snoc a k d n r _
/-- It is one of them, unknown, and none of the unknown is less. -/
def LeastOf (a : AX) (k : Nat) (d : Int) (L : List NT) : Option NT → Prop
  | none => ∀ n ∈ L, n.1.1 = d → knownY a k n = true
  | some m => m ∈ L ∧ m.1.1 = d ∧ knownY a k m = false ∧ ∀ n ∈ L, n.1.1 = d → knownY a k n = false → m.1.2 ≤ n.1.2
theorem LeastOf.snoc {a : AX} {k : Nat} {d : Int} {L : List NT} {o : Option NT} (h : LeastOf a k d L o) (n : NT) : LeastOf a k d (L ++ [n]) (if (decide (n.1.1 = d) && !knownY a k n && ltO n o) = true then some n else o) := by
  by_cases h1 : n.1.1 = d
  · cases h2 : knownY a k n with
    | true =>
      rw [if_neg (by simp)]
      cases o with
      | none =>
        intro m hm e
        rcases List.mem_append.1 hm with hm | hm
        · exact h m hm e
        · rw [List.mem_singleton.1 hm]; exact h2
      | some p =>
        obtain ⟨g1, g2, g3, g4⟩ := h
        refine ⟨List.mem_append_left _ g1, g2, g3, fun m hm e hk => ?_⟩
        rcases List.mem_append.1 hm with hm | hm
        · exact g4 m hm e hk
        · rw [List.mem_singleton.1 hm, h2] at hk; cases hk
    | false =>
      cases o with
      | none =>
        rw [if_pos (by simp [h1, ltO])]
        refine ⟨by simp, h1, h2, fun m hm e hk => ?_⟩
        rcases List.mem_append.1 hm with hm | hm
        · rw [h m hm e] at hk; cases hk
        · rw [List.mem_singleton.1 hm]; exact Int.le_refl _
      | some p =>
        obtain ⟨g1, g2, g3, g4⟩ := h
        by_cases hlt : n.1.2 < p.1.2
        · rw [if_pos (by simp [h1, hlt, ltO])]
          refine ⟨by simp, h1, h2, fun m hm e hk => ?_⟩
          rcases List.mem_append.1 hm with hm | hm
          · have := g4 m hm e hk; omega
          · rw [List.mem_singleton.1 hm]; exact Int.le_refl _
        · rw [if_neg (by simp [h1, hlt, ltO])]
          refine ⟨List.mem_append_left _ g1, g2, g3, fun m hm e hk => ?_⟩
          rcases List.mem_append.1 hm with hm | hm
          · exact g4 m hm e hk
          · rw [List.mem_singleton.1 hm]; omega
  · rw [if_neg (by simp [h1])]
    cases o with
    | none =>
      intro m hm e
      rcases List.mem_append.1 hm with hm | hm
      · exact h m hm e
      · rw [List.mem_singleton.1 hm] at e; exact absurd e h1
    | some p =>
      obtain ⟨g1, g2, g3, g4⟩ := h
      refine ⟨List.mem_append_left _ g1, g2, g3, fun m hm e hk => ?_⟩
      rcases List.mem_append.1 hm with hm | hm
      · exact g4 m hm e hk
      · rw [List.mem_singleton.1 hm] at e; exact absurd e h1
theorem leastOf_lst {a : AX} {k : Nat} {d : Int} : ∀ (R L : List NT) (o : Option NT), LeastOf a k d L o → LeastOf a k d (L ++ R) (lst a k d R o)
  | [], L, o, h => by rw [List.append_nil]; exact h
  | n :: r, L, o, h => by
    have := leastOf_lst r (L ++ [n]) _ (h.snoc n)
    rw [List.append_assoc] at this
    exact this
/-- The program finds the same one. -/
theorem RelY.least {a : AX} {y : YX} (h : RelY a y) {k : Nat} (hk : k < 65) (d : Int) : (lst a k d y.rd none = none ∧ (hidR (a.N k) (a.rd d)).2 = false) ∨ ∃ n, lst a k d y.rd none = some n ∧ n.1 = (d, (hidR (a.N k) (a.rd d)).1) ∧ (hidR (a.N k) (a.rd d)).2 = true := by
  have hl : LeastOf a k d y.rd (lst a k d y.rd none) := leastOf_lst y.rd [] none (fun n hn => by cases hn)
  have hz : ∀ i : Nat, i < 65 → (∀ n ∈ y.rd, ¬ (n.1.1 = d ∧ n.1.2 = (i : Int))) → a.rd d i ≤ (a.N k).getD i 0 := fun i hi hno => by
    rw [h.rn d i hno]
    exact (h.num k hk).2 i
  have hyes : ∀ n ∈ y.rd, n.1.1 = d → (knownY a k n = true ↔ a.rd d n.1.2 ≤ (a.N k).getD n.1.2.toNat 0) := fun n hn e => by
    obtain ⟨g1, g2, g3⟩ := h.rs n hn
    rw [knownY_is hk g3, decide_eq_true_eq, ← e, g1]
    unfold atM
    rw [if_pos g2]
  cases hr : lst a k d y.rd none with
  | none =>
    rw [hr] at hl
    refine .inl ⟨rfl, ?_⟩
    rw [hidR_none (fun i hi => ?_)]
    by_cases hx : ∃ n ∈ y.rd, n.1.1 = d ∧ n.1.2 = (i : Int)
    · obtain ⟨n, hn, e1, e2⟩ := hx
      have := (hyes n hn e1).1 (hl n hn e1)
      rw [e2, Int.toNat_natCast] at this
      exact this
    · exact hz i hi (fun n hn e => hx ⟨n, hn, e⟩)
  | some m =>
    rw [hr] at hl
    obtain ⟨g1, g2, g3, g4⟩ := hl
    obtain ⟨r1, r2, r3⟩ := h.rs m g1
    obtain ⟨j, hj⟩ : ∃ j : Nat, m.1.2 = (j : Int) := ⟨m.1.2.toNat, by omega⟩
    have hj65 : j < 65 := by omega
    have hfound : hidR (a.N k) (a.rd d) = ((j : Int), true) := by
      refine hidR_found hj65 (fun i hi => ?_) (fun hle => ?_)
      · by_cases hx : ∃ n ∈ y.rd, n.1.1 = d ∧ n.1.2 = (i : Int)
        · obtain ⟨n, hn, e1, e2⟩ := hx
          cases hkn : knownY a k n with
          | true =>
            have := (hyes n hn e1).1 hkn
            rw [e2, Int.toNat_natCast] at this
            exact this
          | false =>
            have := g4 n hn e1 hkn
            omega
        · exact hz i (by omega) (fun n hn e => hx ⟨n, hn, e⟩)
      · have := (hyes m g1 g2).2 (by rw [hj, Int.toNat_natCast]; exact hle)
        rw [g3] at this
        cases this
    refine .inr ⟨m, rfl, ?_, ?_⟩
    · rw [hfound]
      exact Prod.ext g2 hj
    · rw [hfound]
theorem join_ge (M N : List Int) (hM : IsNum M) (i : Nat) : M.getD i 0 ≤ (joinN M N).getD i 0 := by
  by_cases hi : i < 65
  · rw [joinN_at _ _ hi]; omega
  · rw [hM.out (by omega), (joinN_num (N := N) hM).out (by omega)]
    exact Int.le_refl _
theorem tick_ge (N : List Int) (hN : IsNum N) (k : Nat) (hk : k < 65) (i : Nat) : N.getD i 0 ≤ (tickN N k).getD i 0 := by
  unfold tickN
  split
  · rw [Int.toNat_natCast, set_getD _ _ _ _ (by rw [hN.1]; exact hk)]
    split
    · rename_i e
      subst e
      omega
    · exact Int.le_refl _
  · exact Int.le_refl _
/-- The clocks of a worker grow. -/
theorem updN_ge {a : AX} {k : Nat} {N' : List Int} (h : ∀ i, (a.N k).getD i 0 ≤ N'.getD i 0) (j i : Nat) : (a.N j).getD i 0 ≤ (updN a.N k N' j).getD i 0 := by
  unfold updN
  by_cases e : j = k
  · rw [if_pos e, e]; exact h i
  · rw [if_neg e]; exact Int.le_refl _
theorem ckN_put {y : YX} {k j : Nat} {v : Value × List Int} (y' : YX) (hy : y'.ck = putS y.ck k v) : ckN y' j = if j = k then numL v.2 else ckN y j := by
  unfold ckN
  rw [hy, lookS_put]
  by_cases e : j = k
  · rw [if_pos (by rw [e]), if_pos e]
  · rw [if_neg (by omega), if_neg e]
theorem RelY.load {a : AX} {y : YX} (h : RelY a y) {k : Nat} (hk : k < 65) (p : Int) {v : Value × List Int} (hv : numL v.2 = joinN (a.N k) (a.pn p)) : RelY (loadA a k p) ⟨putS y.ck k v, y.sy, y.wr, y.rd, y.cl⟩ := by
  have hg := fun j i => updN_ge (a := a) (k := k) (fun i => join_ge (a.N k) (a.pn p) (h.num k hk) i) j i
  refine ⟨fun j hj => ?_, fun q => h.sy q, fun j hj => ?_, fun n hn => ?_, h.wn, fun n hn => ?_, h.rn, h.cl⟩
  · rw [ckN_put _ rfl]
    show _ = updN a.N k _ j
    unfold updN
    split
    · exact hv
    · exact h.ck j hj
  · show IsNum (updN a.N k _ j)
    unfold updN
    split
    · exact joinN_num (h.num k hk)
    · exact h.num j hj
  · obtain ⟨g1, g2, g3, g4⟩ := h.ws n hn
    exact ⟨g1, g2, g3, Int.le_trans g4 (hg _ _)⟩
  · obtain ⟨g1, g2, g3⟩ := h.rs n hn
    exact ⟨g1, g2, Int.le_trans g3 (hg _ _)⟩
theorem RelY.store {a : AX} {y : YX} (h : RelY a y) {k : Nat} (hk : k < 65) (p : Int) {u v : Value × List Int} (hu : numL u.2 = a.N k) (hv : numL v.2 = tickN (a.N k) k) : RelY (storeA a k p) ⟨putS y.ck k v, putS y.sy p u, y.wr, y.rd, y.cl⟩ := by
  have hg := fun j i => updN_ge (a := a) (k := k) (fun i => tick_ge (a.N k) (h.num k hk) k hk i) j i
  refine ⟨fun j hj => ?_, fun q => ?_, fun j hj => ?_, fun n hn => ?_, h.wn, fun n hn => ?_, h.rn, h.cl⟩
  · rw [ckN_put (y := y) _ rfl]
    show _ = updN a.N k _ j
    unfold updN
    split
    · exact hv
    · exact h.ck j hj
  · show (match lookS (putS y.sy p u) q with | some q => numL q.2 | none => zeroN) = updI a.pn p (a.N k) q
    rw [lookS_put]
    unfold updI
    by_cases e : q = p
    · rw [if_pos e, if_pos e]
      exact hu
    · rw [if_neg e, if_neg e]
      exact h.sy q
  · show IsNum (updN a.N k _ j)
    unfold updN
    split
    · exact tickN_num (h.num k hk) _
    · exact h.num j hj
  · obtain ⟨g1, g2, g3, g4⟩ := h.ws n hn
    exact ⟨g1, g2, g3, Int.le_trans g4 (hg _ _)⟩
  · obtain ⟨g1, g2, g3⟩ := h.rs n hn
    exact ⟨g1, g2, Int.le_trans g3 (hg _ _)⟩
/-- All reads but a worker's of a place; all notes but those of a place. -/
def butR (L : List NT) (d : Int) (k : Nat) : List NT := L.filter fun n => !(decide (n.1.1 = d) && decide (n.1.2 = (k : Int)))
def butD (L : List NT) (d : Int) : List NT := L.filter fun n => !decide (n.1.1 = d)
theorem butR_mem {L : List NT} {d : Int} {k : Nat} {n : NT} : n ∈ butR L d k ↔ n ∈ L ∧ ¬ (n.1.1 = d ∧ n.1.2 = (k : Int)) := by
  unfold butR
  rw [List.mem_filter]
  simp
  intro _
  exact Decidable.imp_iff_not_or.symm
theorem butD_mem {L : List NT} {d : Int} {n : NT} : n ∈ butD L d ↔ n ∈ L ∧ n.1.1 ≠ d := by
  unfold butD
  rw [List.mem_filter]
  simp
theorem RelY.clash {a : AX} {y : YX} (h : RelY a y) (c : List ClT) : RelY { a with cl := c } { y with cl := c } := ⟨h.ck, h.sy, h.num, h.ws, h.wn, h.rs, h.rn, rfl⟩
theorem RelY.readR {a : AX} {y : YX} (h : RelY a y) {k : Nat} (hk : k < 65) (d : Int) : RelY { a with rd := updI a.rd d (updI (a.rd d) k ((a.N k).getD k 0)) } { y with rd := butR y.rd d k ++ [((d, (k : Int)), (a.N k).getD k 0)] } := by
  have hu : ∀ e j : Int, updI a.rd d (updI (a.rd d) k ((a.N k).getD k 0)) e j = if e = d ∧ j = (k : Int) then (a.N k).getD k 0 else a.rd e j := fun e j => by
    unfold updI
    by_cases h1 : e = d
    · subst h1
      rw [if_pos rfl]
      by_cases h2 : j = (k : Int)
      · rw [if_pos h2, if_pos ⟨rfl, h2⟩]
      · rw [if_neg h2, if_neg (fun e => h2 e.2)]
    · rw [if_neg h1, if_neg (fun e => h1 e.1)]
  refine ⟨h.ck, h.sy, h.num, h.ws, h.wn, fun n hn => ?_, fun e j hno => ?_, h.cl⟩
  · show updI a.rd d _ n.1.1 n.1.2 = n.2 ∧ _
    rw [hu]
    rcases List.mem_append.1 hn with hn | hn
    · obtain ⟨h1, h2⟩ := butR_mem.1 hn
      rw [if_neg h2]
      exact h.rs n h1
    · rw [List.mem_singleton.1 hn]
      refine ⟨if_pos ⟨rfl, rfl⟩, ⟨by show (0 : Int) ≤ k; omega, by show (k : Int) ≤ 64; omega⟩, ?_⟩
      show (a.N k).getD k 0 ≤ (a.N (k : Int).toNat).getD (k : Int).toNat 0
      rw [Int.toNat_natCast]
      exact Int.le_refl _
  · show updI a.rd d _ e j = 0
    rw [hu]
    by_cases hx : e = d ∧ j = (k : Int)
    · exact absurd ⟨hx.1.symm, hx.2.symm⟩ (hno ((d, (k : Int)), (a.N k).getD k 0) (List.mem_append_right _ (by simp)))
    · rw [if_neg hx]
      refine h.rn e j fun n hn he => hno n (List.mem_append_left _ (butR_mem.2 ⟨hn, fun e2 => hx ?_⟩)) he
      exact ⟨he.1.symm.trans e2.1, he.2.symm.trans e2.2⟩
theorem RelY.writeR {a : AX} {y : YX} (h : RelY a y) {k : Nat} (hk : k < 65) (d : Int) : RelY { a with wr := updI a.wr d k, wt := updI a.wt d ((a.N k).getD k 0), rd := updI a.rd d (fun _ => 0) } { y with wr := butD y.wr d ++ [((d, (k : Int)), (a.N k).getD k 0)], rd := butD y.rd d } := by
  refine ⟨h.ck, h.sy, h.num, fun n hn => ?_, fun e hno => ?_, fun n hn => ?_, fun e j hno => ?_, h.cl⟩
  · show updI a.wr d _ n.1.1 = n.1.2 ∧ updI a.wt d _ n.1.1 = n.2 ∧ _
    unfold updI
    rcases List.mem_append.1 hn with hn | hn
    · obtain ⟨h1, h2⟩ := butD_mem.1 hn
      rw [if_neg h2, if_neg h2]
      exact h.ws n h1
    · rw [List.mem_singleton.1 hn, if_pos rfl, if_pos rfl]
      refine ⟨rfl, rfl, ⟨by show (0 : Int) ≤ k; omega, by show (k : Int) ≤ 64; omega⟩, ?_⟩
      show (a.N k).getD k 0 ≤ (a.N (k : Int).toNat).getD (k : Int).toNat 0
      rw [Int.toNat_natCast]
      exact Int.le_refl _
  · show updI a.wt d _ e = 0
    unfold updI
    by_cases hx : e = d
    · exact absurd hx.symm (hno ((d, (k : Int)), (a.N k).getD k 0) (List.mem_append_right _ (by simp)))
    · rw [if_neg hx]
      exact h.wn e fun n hn he => hno n (List.mem_append_left _ (butD_mem.2 ⟨hn, fun e2 => hx (he.symm.trans e2)⟩)) he
  · obtain ⟨h1, h2⟩ := butD_mem.1 hn
    show updI a.rd d _ n.1.1 n.1.2 = n.2 ∧ _
    unfold updI
    rw [if_neg h2]
    exact h.rs n h1
  · show updI a.rd d _ e j = 0
    unfold updI
    by_cases hx : e = d
    · rw [if_pos hx]
    · rw [if_neg hx]
      exact h.rn e j fun n hn he => hno n (butD_mem.2 ⟨hn, fun e2 => hx (he.1.symm.trans e2)⟩) he
end Go.Proofs.Ytdgmcaehadigaaa
