/- Plain mathematics of maps from ids to refs: rising lists of what each id has; their shards. -/
import Derived.Test.YtoaikdnooafjmaaBvPlain
namespace Go.Proofs.Ytoaikdnooafjmaa

abbrev RefT := Int × Int
abbrev EntI := Int × RefT
def findI (L : List EntI) (k : Int) : Option RefT := (L.find? fun e => e.1 == k).map (·.2)
def insI : List EntI → Int → RefT → List EntI
  | [], k, r => [(k, r)]
  | e :: t, k, r => if k < e.1 then (k, r) :: e :: t else e :: insI t k r
def delI (L : List EntI) (k : Int) : List EntI := L.filter fun e => !(e.1 == k)
def RiseI (L : List EntI) : Prop := L.Pairwise fun a b => a.1 < b.1

theorem findI_nil (k : Int) : findI [] k = none := rfl
theorem findI_cons (e : EntI) (t : List EntI) (k : Int) : findI (e :: t) k = if e.1 = k then some e.2 else findI t k := by
  unfold findI
  rw [List.find?_cons]
  by_cases h : e.1 = k
  · rw [if_pos h, show (e.1 == k) = true by simpa using h]
    rfl
  · rw [if_neg h, show (e.1 == k) = false by simpa using h]
theorem findI_none {L : List EntI} {k : Int} : findI L k = none ↔ ∀ e ∈ L, e.1 ≠ k := by
  induction L with
  | nil => simp [findI_nil]
  | cons a t ih =>
    rw [findI_cons]
    by_cases h : a.1 = k
    · simp [h]
    · simp only [if_neg h, ih, List.mem_cons, forall_eq_or_imp]
      exact ⟨fun h2 => ⟨h, h2⟩, fun h2 => h2.2⟩
theorem findI_mem {L : List EntI} {k : Int} {r : RefT} (h : findI L k = some r) : (k, r) ∈ L := by
  induction L with
  | nil => cases h
  | cons a t ih =>
    rw [findI_cons] at h
    by_cases e : a.1 = k
    · rw [if_pos e] at h
      injection h with h
      rw [← e, ← h]
      exact List.mem_cons_self
    · rw [if_neg e] at h
      exact List.mem_cons_of_mem _ (ih h)
theorem RiseI.find {L : List EntI} (hs : RiseI L) {k : Int} {r : RefT} (h : (k, r) ∈ L) : findI L k = some r := by
  induction L with
  | nil => cases h
  | cons a t ih =>
    rw [findI_cons]
    have hp := List.pairwise_cons.1 hs
    rcases List.mem_cons.1 h with rfl | h
    · rw [if_pos rfl]
    · have := hp.1 _ h
      rw [if_neg (by intro e; rw [e] at this; exact Int.lt_irrefl _ this)]
      exact ih hp.2 h
theorem insI_mem {L : List EntI} {k : Int} {r : RefT} {e : EntI} : e ∈ insI L k r ↔ e = (k, r) ∨ e ∈ L := by
  induction L with
  | nil => simp [insI]
  | cons a t ih =>
    unfold insI
    split
    · simp
    · simp only [List.mem_cons, ih]
      constructor
      · rintro (h | h | h)
        · exact .inr (.inl h)
        · exact .inl h
        · exact .inr (.inr h)
      · rintro (h | h | h)
        · exact .inr (.inl h)
        · exact .inl h
        · exact .inr (.inr h)
theorem insI_len (L : List EntI) (k : Int) (r : RefT) : (insI L k r).length = L.length + 1 := by
  induction L with
  | nil => rfl
  | cons a t ih =>
    unfold insI
    split
    · rfl
    · simp [ih]
theorem RiseI.ins {L : List EntI} (hs : RiseI L) {k : Int} (r : RefT) (hn : findI L k = none) : RiseI (insI L k r) := by
  induction L with
  | nil => exact List.pairwise_singleton _ _
  | cons a t ih =>
    have hp := List.pairwise_cons.1 hs
    have ha := findI_none.1 hn
    unfold insI
    split
    · next h =>
      refine List.pairwise_cons.2 ⟨fun b hb => ?_, hs⟩
      rcases List.mem_cons.1 hb with rfl | hb
      · exact h
      · have := hp.1 b hb
        show k < b.1
        omega
    · next h =>
      refine List.pairwise_cons.2 ⟨fun b hb => ?_, ih hp.2 (findI_none.2 fun e he => ha e (List.mem_cons_of_mem _ he))⟩
      rcases insI_mem.1 hb with rfl | hb
      · have := ha a List.mem_cons_self
        show a.1 < k
        omega
      · exact hp.1 b hb
theorem RiseI.del {L : List EntI} (hs : RiseI L) (k : Int) : RiseI (delI L k) := hs.filter _
theorem findI_ins {L : List EntI} {k : Int} (r : RefT) (hn : findI L k = none) (j : Int) : findI (insI L k r) j = if j = k then some r else findI L j := by
  induction L with
  | nil =>
    unfold insI
    rw [findI_cons]
    by_cases e : j = k
    · rw [if_pos e, if_pos e.symm]
    · rw [if_neg e, if_neg (fun e2 => e e2.symm)]
  | cons a t ih =>
    have ha := findI_none.1 hn
    have hak := ha a List.mem_cons_self
    unfold insI
    split
    · rw [findI_cons]
      by_cases e : j = k
      · rw [if_pos e, if_pos e.symm]
      · rw [if_neg e, if_neg (fun e2 => e e2.symm)]
    · rw [findI_cons, findI_cons, ih (findI_none.2 fun e he => ha e (List.mem_cons_of_mem _ he))]
      by_cases e : a.1 = j
      · rw [if_pos e, if_pos e, if_neg (fun e2 => hak (e.trans e2))]
      · rw [if_neg e, if_neg e]
theorem findI_del (L : List EntI) (k j : Int) : findI (delI L k) j = if j = k then none else findI L j := by
  induction L with
  | nil => simp [delI, findI_nil]
  | cons a t ih =>
    unfold delI at *
    rw [List.filter_cons]
    by_cases e : a.1 = k
    · rw [show (!(a.1 == k)) = false by simpa using e, if_neg (by decide), ih, findI_cons]
      by_cases e2 : j = k
      · rw [if_pos e2, if_pos e2]
      · rw [if_neg e2, if_neg e2, if_neg (fun e3 => e2 (e3.symm.trans e))]
    · rw [show (!(a.1 == k)) = true by simpa using e, if_pos rfl, findI_cons, ih, findI_cons]
      by_cases e2 : a.1 = j
      · rw [if_pos e2, if_pos e2, if_neg (fun e3 => e (e2.trans e3))]
      · rw [if_neg e2, if_neg e2]
theorem delI_len {L : List EntI} (hs : RiseI L) {k : Int} (hn : findI L k ≠ none) : (delI L k).length + 1 = L.length := by
  induction L with
  | nil => exact absurd rfl hn
  | cons a t ih =>
    have hp := List.pairwise_cons.1 hs
    unfold delI at *
    rw [List.filter_cons]
    rw [findI_cons] at hn
    by_cases e : a.1 = k
    · rw [show (!(a.1 == k)) = false by simpa using e, if_neg (by decide), List.length_cons]
      congr 1
      rw [List.filter_eq_self.2]
      intro b hb
      have := hp.1 b hb
      simp
      omega
    · rw [show (!(a.1 == k)) = true by simpa using e, if_pos rfl, List.length_cons, List.length_cons]
      rw [if_neg e] at hn
      rw [ih hp.2 hn]

/-- An id's shard, of n. -/
def mixI (k : Int) : Nat := (mixB (BitVec.ofNat 64 k.toNat)).toNat
def shI (n : Nat) (k : Int) : Nat := mixI k * n / 18446744073709551616
theorem mixI_lt (k : Int) : mixI k < 18446744073709551616 := (mixB (BitVec.ofNat 64 k.toNat)).isLt
theorem shI_lt {n : Nat} (h : 1 ≤ n) (k : Int) : shI n k < n := by
  unfold shI
  have := mixI_lt k
  rw [Nat.div_lt_iff_lt_mul (by decide)]
  rw [Nat.mul_comm n]
  exact Nat.mul_lt_mul_of_pos_right this h
/-- How many ids of a shard have a ref. -/
def cntI (n : Nat) (L : List EntI) (i : Nat) : Nat := L.countP fun e => shI n e.1 == i
theorem cntI_ins (n : Nat) (L : List EntI) (k : Int) (r : RefT) (i : Nat) : cntI n (insI L k r) i = cntI n L i + if shI n k = i then 1 else 0 := by
  unfold cntI
  induction L with
  | nil =>
    unfold insI
    rw [List.countP_cons]
    simp only [beq_iff_eq]
  | cons a t ih =>
    unfold insI
    split
    · rw [List.countP_cons (l := a :: t)]
      simp only [beq_iff_eq]
    · rw [List.countP_cons, ih, List.countP_cons]
      omega
theorem cntI_del {n : Nat} {L : List EntI} (hs : RiseI L) {k : Int} (hn : findI L k ≠ none) (i : Nat) : cntI n (delI L k) i + (if shI n k = i then 1 else 0) = cntI n L i := by
  unfold cntI
  induction L with
  | nil => exact absurd rfl hn
  | cons a t ih =>
    have hp := List.pairwise_cons.1 hs
    rw [findI_cons] at hn
    unfold delI at *
    rw [List.filter_cons]
    by_cases e : a.1 = k
    · rw [show (!(a.1 == k)) = false by simpa using e, if_neg (by decide), List.countP_cons]
      have : t.filter (fun e => !(e.1 == k)) = t := List.filter_eq_self.2 fun b hb => by
        have := hp.1 b hb
        simp
        omega
      rw [this, e]
      simp only [beq_iff_eq]
    · rw [show (!(a.1 == k)) = true by simpa using e, if_pos rfl, List.countP_cons, List.countP_cons]
      rw [if_neg e] at hn
      have := ih hp.2 hn
      omega
/-- All shards together. -/
def sumI (n : Nat) (L : List EntI) : Nat → Nat
  | 0 => 0
  | j + 1 => sumI n L j + cntI n L j
theorem sumI_cons (n : Nat) (a : EntI) (t : List EntI) : ∀ j, sumI n (a :: t) j = sumI n t j + if shI n a.1 < j then 1 else 0
  | 0 => by simp [sumI]
  | j + 1 => by
    simp only [sumI]
    rw [sumI_cons n a t j]
    unfold cntI
    rw [List.countP_cons]
    simp only [beq_iff_eq]
    split <;> split <;> split <;> omega
theorem sumI_all {n : Nat} (h : 1 ≤ n) : ∀ L : List EntI, sumI n L n = L.length
  | [] => by
    have : ∀ j, sumI n [] j = 0 := fun j => by
      induction j with
      | zero => rfl
      | succ j ih => simp only [sumI, ih, cntI, List.countP_nil]
    exact this n
  | a :: t => by
    rw [sumI_cons, sumI_all h t, if_pos (shI_lt h _)]
    rfl
theorem sumI_le {n : Nat} (L : List EntI) (j : Nat) : sumI n L j ≤ L.length := by
  induction L with
  | nil =>
    induction j with
    | zero => exact Nat.le_refl _
    | succ j ih => simp only [sumI, cntI, List.countP_nil]; exact ih
  | cons a t ih =>
    rw [sumI_cons, List.length_cons]
    split <;> omega

/-- A map: how many shards, what each id has, how often something was changed. -/
structure IX where
  n : Nat
  L : List EntI
  v : Nat
def imNew (n : Nat) : IX := ⟨n, [], 0⟩
def imGet (x : IX) (k : Int) : RefT := (findI x.L k).getD (0, 0)
def imHas (x : IX) (k : Int) : Bool := (findI x.L k).isSome
def imPut (x : IX) (k : Int) (r : RefT) : IX := if imHas x k = true then x else ⟨x.n, insI x.L k r, x.v + 1⟩
def imDrop (x : IX) (k : Int) : IX := if imHas x k = true then ⟨x.n, delI x.L k, x.v + 1⟩ else x
/-- May x be a uint64? an int? -/
def IsU (x : Int) : Prop := (Go.Lit.int .u64 x).wf = true
/-- A map as it may be, behind m deeds at most. -/
structure IFit (m : Nat) (x : IX) : Prop where
  n1 : 1 ≤ x.n
  n64 : x.n ≤ 64
  rise : RiseI x.L
  ids : ∀ e ∈ x.L, IsU e.1
  len : x.L.length ≤ m
  ver : x.v ≤ m
section
variable {m m' : Nat} {x : IX}
theorem IFit.new {n : Nat} (h1 : 1 ≤ n) (h2 : n ≤ 64) : IFit 0 (imNew n) := ⟨h1, h2, List.Pairwise.nil, fun e he => (by cases he), Nat.le_refl _, Nat.le_refl _⟩
theorem IFit.more (h : IFit m x) (hm : m ≤ m') : IFit m' x := { h with len := Nat.le_trans h.len hm, ver := Nat.le_trans h.ver hm }
theorem imHas_false {k : Int} : imHas x k = false ↔ findI x.L k = none := by unfold imHas; cases findI x.L k <;> simp
theorem imHas_true {k : Int} (h : imHas x k = true) : findI x.L k ≠ none := fun e => by unfold imHas at h; rw [e] at h; cases h
theorem IFit.put (h : IFit m x) {k : Int} (hk : IsU k) (r : RefT) : IFit (m + 1) (imPut x k r) := by
  unfold imPut
  cases hh : imHas x k with
  | true => exact h.more (Nat.le_succ m)
  | false =>
    refine ⟨h.n1, h.n64, h.rise.ins r (imHas_false.1 hh), fun e he => ?_, ?_, ?_⟩
    · rcases insI_mem.1 he with rfl | he
      · exact hk
      · exact h.ids e he
    · have := h.len
      show (insI x.L k r).length ≤ m + 1
      rw [insI_len]
      omega
    · have := h.ver
      show x.v + 1 ≤ m + 1
      omega
theorem IFit.drop (h : IFit m x) (k : Int) : IFit (m + 1) (imDrop x k) := by
  unfold imDrop
  cases hh : imHas x k with
  | false => exact h.more (Nat.le_succ m)
  | true =>
    refine ⟨h.n1, h.n64, h.rise.del k, fun e he => h.ids e (List.mem_filter.1 he).1, ?_, ?_⟩
    · have := h.len
      have := delI_len h.rise (imHas_true hh)
      show (delI x.L k).length ≤ m + 1
      omega
    · have := h.ver
      show x.v + 1 ≤ m + 1
      omega
end

end Go.Proofs.Ytoaikdnooafjmaa
