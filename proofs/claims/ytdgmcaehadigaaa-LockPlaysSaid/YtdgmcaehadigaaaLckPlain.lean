/- Plain mathematics of mutexes: who holds what, who waits for what; the rings; that there is none as long as all is taken rising. -/
import Derived.Test.YtdgmcaehadigaaaMem
namespace Go.Proofs.Ytdgmcaehadigaaa

/-- A mutex, and a worker that holds it, or waits for it. -/
abbrev PrT := Int × Int
/-- Who holds n. -/
def hold (L : List PrT) (n : Int) : Option Int := (L.find? fun p => p.1 == n).map (·.2)
/-- For what w waits. -/
def waitOf (L : List PrT) (w : Int) : Option Int := (L.find? fun p => p.2 == w).map (·.1)
def restL (L : List PrT) (w : Int) : List PrT := L.filter fun p => p.2 != w
def freeL (L : List PrT) (n : Int) : List PrT := L.filter fun p => p.1 != n
def okW (w : Int) : Bool := decide (0 ≤ w ∧ w ≤ 64)
def okN (n : Int) : Bool := decide (0 ≤ n ∧ n ≤ 4096)
/-- Is n greater than all that w holds? -/
def aboveB (L : List PrT) (n w : Int) : Bool := L.all fun p => !(p.2 == w && decide (n ≤ p.1))
/-- What w holds, of the mutexes below k. -/
def heldTo (L : List PrT) (w : Int) (k : Nat) : List Int := ((List.range k).map Int.ofNat).filter fun n => hold L n == some w
def heldL (L : List PrT) (w : Int) : List Int := heldTo L w 4097
/-- A table. -/
structure LX where
  hs : List PrT
  ws : List PrT
  up : Bool
deriving DecidableEq
def newL : LX := ⟨[], [], true⟩
def takeB (x : LX) (w n : Int) : Bool := okW w && (okN n && (hold x.hs n).isNone)
def takeX (x : LX) (w n : Int) : LX :=
  if okW w = true ∧ okN n = true ∧ hold x.hs n ≠ some w then
    match hold x.hs n with
    | none => ⟨x.hs ++ [(n, w)], restL x.ws w, x.up && aboveB x.hs n w⟩
    | some _ => ⟨x.hs, restL x.ws w ++ [(n, w)], x.up && aboveB x.hs n w⟩
  else x
def giveB (x : LX) (w n : Int) : Bool := hold x.hs n == some w
def giveX (x : LX) (w n : Int) : LX := if hold x.hs n = some w then ⟨freeL x.hs n, restL x.ws w, x.up⟩ else x
/-- Who holds what w waits for. -/
def nx (x : LX) (w : Int) : Option Int := (waitOf x.ws w).bind (hold x.hs)
/-- The way from one worker, till it is back at w. -/
def way (x : LX) (w : Int) : Nat → Int → List Int → List Int
  | 0, _, _ => []
  | k + 1, a, l => match nx x a with
    | none => []
    | some y => if y = w then l ++ [a] else way x w k y (l ++ [a])
def ringAt (x : LX) (w : Int) : List Int := way x w 65 w []
/-- The ring of the least worker from k on, of j workers. -/
def ringFrom (x : LX) : Nat → Nat → List Int
  | 0, _ => []
  | j + 1, k => if ringAt x k = [] then ringFrom x j (k + 1) else ringAt x k
def ringP (x : LX) : List Int := ringFrom x 65 0

theorem hold_snoc (L : List PrT) (n w k : Int) (h : hold L n = none) : hold (L ++ [(n, w)]) k = if k = n then some w else hold L k := by
  unfold hold at *
  rw [List.find?_append]
  by_cases e : k = n
  · subst e
    rw [if_pos rfl]
    have : L.find? (fun p => p.1 == k) = none := by simpa using h
    rw [this]
    simp
  · rw [if_neg e]
    have hn : ¬ n = k := fun e2 => e e2.symm
    cases L.find? (fun p => p.1 == k) <;> simp [hn]
theorem find_filter_ne {α β : Type} [DecidableEq β] (f : α → β) (L : List α) (n k : β) : (L.filter fun p => f p != n).find? (fun p => f p == k) = if k = n then none else L.find? (fun p => f p == k) := by
  induction L with
  | nil => simp
  | cons a t ih =>
    by_cases e : f a = n
    · rw [List.filter_cons_of_neg (by simp [e]), ih]
      by_cases e2 : k = n
      · rw [if_pos e2, if_pos e2]
      · rw [if_neg e2, if_neg e2, List.find?_cons_of_neg (by simp [e]; exact fun h => e2 h.symm)]
    · rw [List.filter_cons_of_pos (by simp [e])]
      by_cases e3 : f a = k
      · rw [List.find?_cons_of_pos (by simp [e3]), List.find?_cons_of_pos (by simp [e3]), if_neg (fun h => e (e3.trans h))]
      · rw [List.find?_cons_of_neg (by simp [e3]), List.find?_cons_of_neg (by simp [e3]), ih]
theorem hold_free (L : List PrT) (n k : Int) : hold (freeL L n) k = if k = n then none else hold L k := by
  unfold hold freeL
  rw [find_filter_ne (fun p : PrT => p.1)]
  split <;> rfl
theorem wait_rest (L : List PrT) (w k : Int) : waitOf (restL L w) k = if k = w then none else waitOf L k := by
  unfold waitOf restL
  rw [find_filter_ne (fun p : PrT => p.2)]
  split <;> rfl
theorem wait_snoc (L : List PrT) (n w k : Int) : waitOf (restL L w ++ [(n, w)]) k = if k = w then some n else waitOf L k := by
  have h := wait_rest L w k
  unfold waitOf at *
  rw [List.find?_append]
  by_cases e : k = w
  · subst e
    rw [if_pos rfl] at h ⊢
    have : (restL L k).find? (fun p => p.2 == k) = none := by simpa using h
    rw [this]
    simp
  · rw [if_neg e] at h ⊢
    have hn : ¬ w = k := fun e2 => e e2.symm
    have e2 : List.find? (fun p : PrT => p.2 == k) [(n, w)] = none := by simp [hn]
    rw [e2, Option.or_none]
    exact h

theorem hold_some {L : List PrT} {n w : Int} (h : hold L n = some w) : (n, w) ∈ L := by
  unfold hold at h
  obtain ⟨p, hp, rfl⟩ := Option.map_eq_some_iff.1 h
  have h1 := List.mem_of_find?_eq_some hp
  have h2 : p.1 = n := by simpa using List.find?_some hp
  rw [← h2]
  exact h1
theorem wait_some {L : List PrT} {n w : Int} (h : waitOf L w = some n) : (n, w) ∈ L := by
  unfold waitOf at h
  obtain ⟨p, hp, rfl⟩ := Option.map_eq_some_iff.1 h
  have h1 := List.mem_of_find?_eq_some hp
  have h2 : p.2 = w := by simpa using List.find?_some hp
  rw [← h2]
  exact h1
/-- No mutex stands twice, and all are such as there are. -/
structure LFit (x : LX) : Prop where
  one : ∀ n w, (n, w) ∈ x.hs → hold x.hs n = some w
  hw : ∀ n w, (n, w) ∈ x.hs → (0 ≤ n ∧ n ≤ 4096) ∧ 0 ≤ w ∧ w ≤ 64
  ww : ∀ n w, (n, w) ∈ x.ws → (0 ≤ n ∧ n ≤ 4096) ∧ 0 ≤ w ∧ w ≤ 64
  low : x.up = true → ∀ n m w, (n, w) ∈ x.ws → (m, w) ∈ x.hs → m < n
theorem LFit.new : LFit newL := ⟨fun _ _ h => (by cases h), fun _ _ h => (by cases h), fun _ _ h => (by cases h), fun _ _ _ _ h => (by cases h)⟩
theorem LFit.nil : LFit ⟨[], [], false⟩ := ⟨fun _ _ h => (by cases h), fun _ _ h => (by cases h), fun _ _ h => (by cases h), fun _ _ _ _ h => (by cases h)⟩
theorem above_lt {L : List PrT} {n w m : Int} (h : aboveB L n w = true) (hm : (m, w) ∈ L) : m < n := by
  have := List.all_eq_true.1 h _ hm
  simp only [beq_self_eq_true, Bool.true_and, Bool.not_eq_true', decide_eq_false_iff_not] at this
  omega
theorem LFit.take {x : LX} (h : LFit x) (w n : Int) : LFit (takeX x w n) := by
  unfold takeX
  split
  · rename_i hc
    obtain ⟨h1, h2, h3⟩ := hc
    have h1' : 0 ≤ w ∧ w ≤ 64 := by simpa [okW] using h1
    have h2' : 0 ≤ n ∧ n ≤ 4096 := by simpa [okN] using h2
    split
    · rename_i hn
      refine ⟨fun k v hk => ?_, fun k v hk => ?_, fun k v hk => h.ww k v (List.mem_filter.1 hk).1, fun hu k m v hk hm => ?_⟩
      · show hold (x.hs ++ [(n, w)]) k = some v
        rw [hold_snoc _ _ _ _ hn]
        rcases List.mem_append.1 hk with hk1 | hk1
        · have h9 := h.one _ _ hk1
          by_cases e : k = n
          · rw [e, hn] at h9
            cases h9
          · rw [if_neg e]
            exact h9
        · simp only [List.mem_singleton, Prod.mk.injEq] at hk1
          rw [if_pos hk1.1, hk1.2]
      · rcases List.mem_append.1 hk with hk | hk
        · exact h.hw _ _ hk
        · simp only [List.mem_singleton, Prod.mk.injEq] at hk
          rw [hk.1, hk.2]
          exact ⟨h2', h1'⟩
      · have hu' : x.up = true ∧ aboveB x.hs n w = true := by simpa using hu
        have hkw := List.mem_filter.1 hk
        have hne : v ≠ w := by simpa using hkw.2
        rcases List.mem_append.1 hm with hm | hm
        · exact h.low hu'.1 _ _ _ hkw.1 hm
        · simp only [List.mem_singleton, Prod.mk.injEq] at hm
          exact absurd hm.2 hne
    · rename_i u hn
      refine ⟨h.one, h.hw, fun k v hk => ?_, fun hu k m v hk hm => ?_⟩
      · rcases List.mem_append.1 hk with hk | hk
        · exact h.ww k v (List.mem_filter.1 hk).1
        · simp only [List.mem_singleton, Prod.mk.injEq] at hk
          rw [hk.1, hk.2]
          exact ⟨h2', h1'⟩
      · have hu' : x.up = true ∧ aboveB x.hs n w = true := by simpa using hu
        rcases List.mem_append.1 hk with hk | hk
        · exact h.low hu'.1 _ _ _ (List.mem_filter.1 hk).1 hm
        · simp only [List.mem_singleton, Prod.mk.injEq] at hk
          rw [hk.1]
          rw [hk.2] at hm
          exact above_lt hu'.2 hm
  · exact h
theorem LFit.give {x : LX} (h : LFit x) (w n : Int) : LFit (giveX x w n) := by
  unfold giveX
  split
  · refine ⟨fun k v hk => ?_, fun k v hk => h.hw k v (List.mem_filter.1 hk).1, fun k v hk => h.ww k v (List.mem_filter.1 hk).1, fun hu k m v hk hm => h.low hu _ _ _ (List.mem_filter.1 hk).1 (List.mem_filter.1 hm).1⟩
    have hk2 := List.mem_filter.1 hk
    have hne : k ≠ n := by simpa using hk2.2
    show hold (freeL x.hs n) k = some v
    rw [hold_free, if_neg hne]
    exact h.one _ _ hk2.1
  · exact h
theorem nx_some {x : LX} {a y : Int} (h : nx x a = some y) : ∃ n, waitOf x.ws a = some n ∧ hold x.hs n = some y := by
  unfold nx at h
  cases hw : waitOf x.ws a with
  | none => rw [hw] at h; cases h
  | some n => rw [hw] at h; exact ⟨n, rfl, h⟩
theorem nx_ok {x : LX} (hx : LFit x) {a y : Int} (h : nx x a = some y) : (0 ≤ a ∧ a ≤ 64) ∧ 0 ≤ y ∧ y ≤ 64 := by
  obtain ⟨n, h1, h2⟩ := nx_some h
  exact ⟨(hx.ww _ _ (wait_some h1)).2, (hx.hw _ _ (hold_some h2)).2⟩

/-- As long as all is taken rising there is no ring. -/
theorem way_rising {x : LX} (hx : LFit x) (hu : x.up = true) {w n0 : Int} (h0 : waitOf x.ws w = some n0) : ∀ (k : Nat) (a : Int) (l : List Int), (a = w ∨ ∃ m, n0 ≤ m ∧ (m, a) ∈ x.hs) → way x w k a l = []
  | 0, _, _, _ => rfl
  | k + 1, a, l, h => by
    unfold way
    cases hn : nx x a with
    | none => rfl
    | some y =>
      obtain ⟨n, h1, h2⟩ := nx_some hn
      have hm := hold_some h2
      have hge : n0 ≤ n := by
        rcases h with rfl | ⟨m, hm0, hma⟩
        · rw [h0] at h1
          injection h1 with h1
          omega
        · have := hx.low hu _ _ _ (wait_some h1) hma
          omega
      have hne : y ≠ w := fun e => by
        subst e
        have := hx.low hu _ _ _ (wait_some h0) hm
        omega
      show (if y = w then l ++ [a] else way x w k y (l ++ [a])) = []
      rw [if_neg hne]
      exact way_rising hx hu h0 k y _ (.inr ⟨n, hge, hm⟩)
theorem ringAt_rising {x : LX} (hx : LFit x) (hu : x.up = true) (w : Int) : ringAt x w = [] := by
  unfold ringAt
  cases h0 : waitOf x.ws w with
  | none =>
    unfold way
    have : nx x w = none := by unfold nx; rw [h0]; rfl
    rw [this]
  | some n0 => exact way_rising hx hu h0 _ _ _ (.inl rfl)
theorem ringFrom_nil {x : LX} (h : ∀ w, ringAt x w = []) : ∀ j k, ringFrom x j k = []
  | 0, _ => rfl
  | j + 1, k => by
    unfold ringFrom
    rw [if_pos (h _)]
    exact ringFrom_nil h j (k + 1)
theorem ringP_rising {x : LX} (hx : LFit x) (hu : x.up = true) : ringP x = [] := ringFrom_nil (ringAt_rising hx hu) _ _

/-- Each of a ring's workers waits for what the next one holds, the last one for what the first one holds. -/
def Chain (x : LX) (w : Int) : List Int → Prop
  | [] => False
  | [a] => nx x a = some w
  | a :: b :: r => nx x a = some b ∧ Chain x w (b :: r)
/-- l leads to a. -/
def Leads (x : LX) (w : Int) (l : List Int) (a : Int) : Prop := (l = [] ∧ a = w) ∨ (Chain x a l ∧ l.head? = some w)
theorem chain_snoc {x : LX} {a y : Int} : ∀ (l : List Int), Chain x a l → nx x a = some y → Chain x y (l ++ [a])
  | [_], h, h2 => ⟨h, h2⟩
  | _ :: c :: r, h, h2 => ⟨h.1, chain_snoc (c :: r) h.2 h2⟩
theorem Leads.snoc {x : LX} {w a y : Int} {l : List Int} (h : Leads x w l a) (hn : nx x a = some y) : Chain x y (l ++ [a]) ∧ (l ++ [a]).head? = some w := by
  rcases h with ⟨rfl, rfl⟩ | ⟨h1, h2⟩
  · exact ⟨hn, rfl⟩
  · refine ⟨chain_snoc l h1 hn, ?_⟩
    cases l with
    | nil => cases h2
    | cons b r => exact h2
theorem way_chain {x : LX} {w : Int} : ∀ (k : Nat) (a : Int) (l : List Int), Leads x w l a → way x w k a l ≠ [] → Chain x w (way x w k a l) ∧ (way x w k a l).head? = some w
  | 0, _, _, _, h => absurd rfl h
  | k + 1, a, l, hl, h => by
    unfold way at h ⊢
    cases hn : nx x a with
    | none => rw [hn] at h; exact absurd rfl h
    | some y =>
      rw [hn] at h
      simp only at h ⊢
      by_cases e : y = w
      · rw [if_pos e]
        subst e
        exact hl.snoc hn
      · rw [if_neg e] at h ⊢
        exact way_chain k y _ (.inr (hl.snoc hn)) h
theorem ringAt_chain {x : LX} {w : Int} (h : ringAt x w ≠ []) : Chain x w (ringAt x w) ∧ (ringAt x w).head? = some w := way_chain _ _ _ (.inl ⟨rfl, rfl⟩) h
theorem ringFrom_is {x : LX} : ∀ j k, ringFrom x j k ≠ [] → ∃ w, ringFrom x j k = ringAt x w ∧ ringAt x w ≠ []
  | 0, _, h => absurd rfl h
  | j + 1, k, h => by
    unfold ringFrom at h ⊢
    by_cases e : ringAt x k = []
    · rw [if_pos e] at h ⊢
      exact ringFrom_is j (k + 1) h
    · rw [if_neg e]
      exact ⟨_, rfl, e⟩
theorem chain_at {x : LX} {w : Int} : ∀ (l : List Int), Chain x w l → ∀ i, i < l.length → ∃ a, l[i]? = some a ∧ nx x a = some ((l[i + 1]?).getD w)
  | [a], h, 0, _ => ⟨a, rfl, h⟩
  | a :: b :: r, h, 0, _ => ⟨a, rfl, h.1⟩
  | a :: b :: r, h, i + 1, hi => by
    obtain ⟨c, h1, h2⟩ := chain_at (b :: r) h.2 i (by simpa using hi)
    exact ⟨c, by simpa using h1, by simpa using h2⟩
/-- Of a ring: number i waits for what the next one holds, and that is the first one behind the last. -/
theorem ringP_next {x : LX} {i : Nat} (hi : i < (ringP x).length) : ∃ a n y, (ringP x)[i]? = some a ∧ waitOf x.ws a = some n ∧ hold x.hs n = some y ∧ (ringP x)[(i + 1) % (ringP x).length]? = some y := by
  have hne : ringP x ≠ [] := fun e => by rw [e] at hi; cases hi
  obtain ⟨w, h1, h2⟩ := ringFrom_is _ _ hne
  have h1' : ringP x = ringAt x w := h1
  obtain ⟨hc, hh⟩ := ringAt_chain h2
  rw [← h1'] at hc hh
  obtain ⟨a, ha, hn⟩ := chain_at _ hc i hi
  obtain ⟨n, hw, hy⟩ := nx_some hn
  refine ⟨a, n, _, ha, hw, hy, ?_⟩
  by_cases e : i + 1 = (ringP x).length
  · rw [e, Nat.mod_self, List.getElem?_eq_none (Nat.le_refl _)]
    rw [List.head?_eq_getElem?] at hh
    exact hh
  · rw [Nat.mod_eq_of_lt (by omega), List.getElem?_eq_getElem (by omega)]
    rfl

theorem way_len (x : LX) (w : Int) : ∀ (k : Nat) (a : Int) (l : List Int), (way x w k a l).length ≤ l.length + k
  | 0, _, _ => Nat.zero_le _
  | k + 1, a, l => by
    unfold way
    cases nx x a with
    | none => exact Nat.zero_le _
    | some y =>
      simp only
      split
      · rw [List.length_append, List.length_singleton]
        omega
      · have := way_len x w k y (l ++ [a])
        rw [List.length_append, List.length_singleton] at this
        omega
theorem ringP_len (x : LX) : (ringP x).length ≤ 65 := by
  by_cases h : ringP x = []
  · rw [h]; exact Nat.zero_le _
  · obtain ⟨w, h1, _⟩ := ringFrom_is _ _ h
    rw [show ringP x = ringAt x w from h1]
    have := way_len x w 65 w []
    rw [List.length_nil, Nat.zero_add] at this
    exact this

/-- Numbers below k, none twice, are k at most. -/
theorem nodup_le : ∀ (k : Nat) (l : List Nat), l.Nodup → (∀ a ∈ l, a < k) → l.length ≤ k
  | 0, l, _, h => by
    cases l with
    | nil => exact Nat.le_refl _
    | cons a r => exact absurd (h a (by simp)) (Nat.not_lt_zero a)
  | k + 1, l, hn, h => by
    by_cases hk : k ∈ l
    · have h1 := nodup_le k (l.erase k) (hn.erase k) (fun a ha => by
        have h2 := h a (List.mem_of_mem_erase ha)
        have h3 : a ≠ k := fun e => by
          subst e
          exact (List.Nodup.mem_erase_iff hn).1 ha |>.1 rfl
        omega)
      have := List.length_erase_of_mem hk
      omega
    · have h1 := nodup_le k l hn (fun a ha => by
        have h2 := h a ha
        have h3 : a ≠ k := fun e => hk (e ▸ ha)
        omega)
      omega
/-- The worker that is k steps on. -/
def stepN (x : LX) (w : Int) : Nat → Option Int
  | 0 => some w
  | k + 1 => (stepN x w k).bind (nx x)
theorem stepN_add {x : LX} {w : Int} (i : Nat) {a : Int} (h : stepN x w i = some a) : ∀ j, stepN x w (i + j) = stepN x a j
  | 0 => h
  | j + 1 => by
    show (stepN x w (i + j)).bind _ = (stepN x a j).bind _
    rw [stepN_add i h j]
theorem way_more {x : LX} {w : Int} : ∀ (k i : Nat) (a : Int) (l : List Int), stepN x w i = some a → (∀ j, 0 < j → j ≤ i → stepN x w j ≠ some w) → way x w (k + 1) a l ≠ way x w k a l → stepN x w (i + k + 1) = some w ∧ (∀ j, 0 < j → j ≤ i + k → stepN x w j ≠ some w) ∧ (∀ j, j ≤ i + k → stepN x w j ≠ none)
  | 0, i, a, l, hi, hn, h => by
    unfold way at h
    cases ha : nx x a with
    | none => rw [ha] at h; exact absurd rfl h
    | some y =>
      rw [ha] at h
      simp only at h
      by_cases e : y = w
      · refine ⟨?_, hn, fun j hj e2 => ?_⟩
        · show (stepN x w i).bind _ = _
          rw [hi]
          show nx x a = _
          rw [ha, e]
        · obtain ⟨d, rfl⟩ : ∃ d, i = j + d := ⟨i - j, by omega⟩
          have : ∀ d, stepN x w (j + d) = none := fun d => by
            induction d with
            | zero => exact e2
            | succ d ih => show (stepN x w (j + d)).bind _ = _; rw [ih]; rfl
          rw [this d] at hi
          cases hi
      · rw [if_neg e] at h
        exact absurd rfl h
  | k + 1, i, a, l, hi, hn, h => by
    rw [way, show way x w (k + 1) a l = (match nx x a with | none => [] | some y => if y = w then l ++ [a] else way x w k y (l ++ [a])) from rfl] at h
    cases ha : nx x a with
    | none => rw [ha] at h; exact absurd rfl h
    | some y =>
      rw [ha] at h
      simp only at h
      by_cases e : y = w
      · rw [if_pos e, if_pos e] at h
        exact absurd rfl h
      · rw [if_neg e, if_neg e] at h
        have hs : stepN x w (i + 1) = some y := by
          show (stepN x w i).bind _ = _
          rw [hi]
          exact ha
        have := way_more k (i + 1) y (l ++ [a]) hs (fun j h0 hj => by
          rcases Nat.lt_or_ge i j with h1 | h1
          · have : j = i + 1 := by omega
            rw [this, hs]
            intro e2
            injection e2 with e2
            exact e e2
          · exact hn j h0 h1) h
        rw [show i + 1 + k = i + (k + 1) by omega] at this
        exact this
/-- A ring has each worker once: no way back is longer than there are workers. -/
theorem way_enough {x : LX} (hx : LFit x) (w : Int) (hw : 0 ≤ w ∧ w ≤ 64) : way x w 66 w [] = way x w 65 w [] := by
  by_cases e : way x w 66 w [] = way x w 65 w []
  · exact e
  · exfalso
    obtain ⟨h1, h2, h3⟩ := way_more 65 0 w [] rfl (fun j h0 h1 => by omega) e
    rw [Nat.zero_add] at h1 h2 h3
    have hin : ∀ j, j ≤ 65 → ∃ a : Nat, stepN x w j = some (a : Int) ∧ a < 65 := fun j hj => by
      cases j with
      | zero => exact ⟨w.toNat, by show some w = _; rw [Int.toNat_of_nonneg hw.1], by omega⟩
      | succ j =>
        cases hs : stepN x w (j + 1) with
        | none => exact absurd hs (h3 _ hj)
        | some y =>
          have hb : (stepN x w j).bind (nx x) = some y := hs
          obtain ⟨a, _, ha⟩ := Option.bind_eq_some_iff.1 hb
          have := nx_ok hx ha
          exact ⟨y.toNat, by rw [Int.toNat_of_nonneg this.2.1], by omega⟩
    have hf : ∀ i j, i < j → j ≤ 65 → stepN x w i ≠ stepN x w j := fun i j hij hj e2 => by
      obtain ⟨a, ha, _⟩ := hin i (by omega)
      have h5 := stepN_add i ha (66 - j)
      have h6 := stepN_add j (e2 ▸ ha) (66 - j)
      rw [show j + (66 - j) = 66 by omega, h1] at h6
      rw [← h6] at h5
      exact h2 (i + (66 - j)) (by omega) (by omega) h5
    have hL : ((List.range 66).map fun j => ((stepN x w j).getD 0).toNat).Nodup := by
      rw [List.nodup_iff_pairwise_ne, List.pairwise_map]
      refine List.Pairwise.imp_of_mem ?_ (List.pairwise_lt_range (n := 66))
      intro i j hi hj hij e2
      rw [List.mem_range] at hi hj
      obtain ⟨a, ha, _⟩ := hin i (by omega)
      obtain ⟨b, hb, _⟩ := hin j (by omega)
      rw [ha, hb] at e2
      refine hf i j hij (by omega) ?_
      rw [ha, hb]
      have : a = b := by simpa using e2
      rw [this]
    have := nodup_le 65 _ hL (fun a ha => by
      obtain ⟨j, hj, rfl⟩ := List.mem_map.1 ha
      rw [List.mem_range] at hj
      obtain ⟨b, hb, hlt⟩ := hin j (by omega)
      rw [hb]
      simpa using hlt)
    rw [List.length_map, List.length_range] at this
    omega

theorem heldTo_succ (L : List PrT) (w : Int) (k : Nat) : heldTo L w (k + 1) = heldTo L w k ++ (if hold L k = some w then [(k : Int)] else []) := by
  unfold heldTo
  rw [List.range_succ, List.map_append, List.filter_append]
  congr 1
  by_cases e : hold L k = some w
  · rw [if_pos e]
    simp [e]
  · rw [if_neg e]
    simp [e]
theorem heldL_mem {x : LX} (hx : LFit x) {w n : Int} : n ∈ heldL x.hs w ↔ hold x.hs n = some w := by
  unfold heldL heldTo
  rw [List.mem_filter]
  constructor
  · intro h
    simpa using h.2
  · intro h
    have := (hx.hw _ _ (hold_some h)).1
    refine ⟨List.mem_map.2 ⟨n.toNat, List.mem_range.2 (by omega), ?_⟩, by simp [h]⟩
    show (n.toNat : Int) = n
    omega
theorem heldL_sorted (L : List PrT) (w : Int) : (heldL L w).Pairwise (· < ·) := by
  unfold heldL heldTo
  refine List.Pairwise.filter _ ?_
  rw [List.pairwise_map]
  exact (List.pairwise_lt_range (n := 4097)).imp (fun {a b} h => by show (a : Int) < (b : Int); omega)
/-- The order of a set of numbers is one. -/
theorem rising_eq : ∀ {a b : List Int}, a.Pairwise (· < ·) → b.Pairwise (· < ·) → (∀ x, x ∈ a ↔ x ∈ b) → a = b
  | [], [], _, _, _ => rfl
  | [], y :: s, _, _, h => absurd ((h y).2 (by simp)) (by simp)
  | x :: r, [], _, _, h => absurd ((h x).1 (by simp)) (by simp)
  | x :: r, y :: s, ha, hb, h => by
    rw [List.pairwise_cons] at ha hb
    have h1 := (h x).1 (by simp)
    have h2 := (h y).2 (by simp)
    have e : x = y := by
      rcases List.mem_cons.1 h1 with e | h1
      · exact e
      · rcases List.mem_cons.1 h2 with e | h2
        · exact e.symm
        · have := hb.1 _ h1
          have := ha.1 _ h2
          omega
    subst e
    congr 1
    refine rising_eq ha.2 hb.2 (fun z => ⟨fun hz => ?_, fun hz => ?_⟩)
    · rcases List.mem_cons.1 ((h z).1 (by simp [hz])) with e | h3
      · have := ha.1 _ hz; omega
      · exact h3
    · rcases List.mem_cons.1 ((h z).2 (by simp [hz])) with e | h3
      · have := hb.1 _ hz; omega
      · exact h3
/-- What a map's keys are, in order. -/
theorem held_sorted {x : LX} (hx : LFit x) {w : Int} {ks : List Int} (hn : ks.Nodup) (h : ∀ k, k ∈ ks ↔ hold x.hs k = some w) : (ks.mergeSort fun a b => decide (a ≤ b)) = heldL x.hs w := by
  have hp := List.mergeSort_perm ks (fun a b => decide (a ≤ b))
  have hs : (ks.mergeSort fun a b => decide (a ≤ b)).Pairwise (fun a b => decide (a ≤ b) = true) := List.pairwise_mergeSort (fun a b c h1 h2 => by simp at *; omega) (fun a b => by simp; omega) ks
  have hd : (ks.mergeSort fun a b => decide (a ≤ b)).Nodup := hp.nodup_iff.2 hn
  refine rising_eq ?_ (heldL_sorted _ _) (fun k => by rw [hp.mem_iff, heldL_mem hx]; exact h k)
  have hd' := List.nodup_iff_pairwise_ne.1 hd
  exact (hs.and hd').imp (fun {a b} h => by have := h.1; have := h.2; simp at *; omega)

end Go.Proofs.Ytdgmcaehadigaaa
