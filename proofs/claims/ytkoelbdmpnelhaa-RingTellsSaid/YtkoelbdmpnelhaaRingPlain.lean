/- Plain mathematics of rings of slots: a Next and a Prev each; the list from the head on; what joins and goes. -/
import Derived.Test.YtkoelbdmpnelhaaMem
namespace Go.Proofs.Ytkoelbdmpnelhaa

/-- Two lists of which the one, each of its elements once, is in the other, and is as long, have the same elements. -/
theorem nodup_full {α : Type} [DecidableEq α] : ∀ (A B : List α), A.Nodup → (∀ x ∈ A, x ∈ B) → B.length ≤ A.length → ∀ y ∈ B, y ∈ A
  | [], B, _, _, hl, y, hy => by
    have : B = [] := List.eq_nil_of_length_eq_zero (by simpa using hl)
    rw [this] at hy
    cases hy
  | a :: A, B, hn, hs, hl, y, hy => by
    have hn' := List.nodup_cons.1 hn
    have ha := hs a List.mem_cons_self
    have hle : (B.erase a).length ≤ A.length := by
      rw [List.length_erase_of_mem ha]
      simp only [List.length_cons] at hl
      omega
    by_cases e : y = a
    · rw [e]; exact List.mem_cons_self
    · refine List.mem_cons_of_mem _ (nodup_full A (B.erase a) hn'.2 (fun x hx => ?_) hle y ?_)
      · exact (List.mem_erase_of_ne (fun e2 => hn'.1 (by rw [← e2]; exact hx))).2 (hs x (List.mem_cons_of_mem _ hx))
      · exact (List.mem_erase_of_ne e).2 hy
theorem nodup_len {α : Type} [DecidableEq α] : ∀ (A B : List α), A.Nodup → (∀ x ∈ A, x ∈ B) → A.length ≤ B.length
  | [], _, _, _ => by simp
  | a :: A, B, hn, hs => by
    have hn' := List.nodup_cons.1 hn
    have ha := hs a List.mem_cons_self
    have := nodup_len A (B.erase a) hn'.2 (fun x hx => (List.mem_erase_of_ne (fun e2 => hn'.1 (by rw [← e2]; exact hx))).2 (hs x (List.mem_cons_of_mem _ hx)))
    rw [List.length_erase_of_mem ha] at this
    have := List.length_pos_of_mem ha
    simp only [List.length_cons]
    omega

section
variable (N P : Int → Int)
/-- The list from a slot on, till the head, or none, or one that was met, comes next. -/
def lstF : Nat → List Int → Int → List Int
  | 0, met, _ => met
  | n + 1, met, a => if 0 < a ∧ a ∉ met then lstF n (met ++ [a]) (N a) else met
def lst : List Int := lstF N 4097 [] (N 0)
/-- From a by way of l to b, there and back. -/
def pth : Int → List Int → Int → Prop
  | a, [], b => N a = b ∧ P b = a
  | a, c :: l, b => N a = c ∧ P c = a ∧ pth c l b
/-- From a by way of l, and then no further. -/
def chn : Int → List Int → Prop
  | a, [] => N a ≤ 0
  | a, c :: l => N a = c ∧ 0 < c ∧ chn c l
end
section
variable {N P N' P' : Int → Int}
theorem pth_app : ∀ (l1 : List Int) (a c : Int) (l2 : List Int) (b : Int), pth N P a (l1 ++ c :: l2) b ↔ pth N P a l1 c ∧ pth N P c l2 b
  | [], a, c, l2, b => by simp [pth, and_assoc]
  | d :: l1, a, c, l2, b => by
    simp only [List.cons_append, pth]
    rw [pth_app l1 d c l2 b]
    simp [and_assoc]
theorem pth_congr : ∀ (l : List Int) (a b : Int), (∀ s ∈ a :: l, N' s = N s) → (∀ s ∈ l ++ [b], P' s = P s) → pth N P a l b → pth N' P' a l b
  | [], a, b, hN, hP, h => by
    simp only [pth] at *
    rw [hN a (by simp), hP b (by simp)]
    exact h
  | c :: l, a, b, hN, hP, h => by
    simp only [pth] at *
    rw [hN a (by simp), hP c (by simp)]
    exact ⟨h.1, h.2.1, pth_congr l c b (fun s hs => hN s (List.mem_cons_of_mem _ hs)) (fun s hs => hP s (by rw [List.cons_append]; exact List.mem_cons_of_mem _ hs)) h.2.2⟩
theorem pth_chn : ∀ (l : List Int) (a : Int), pth N P a l 0 → (∀ x ∈ l, 0 < x) → chn N a l
  | [], a, h, _ => by simp only [pth, chn] at *; omega
  | c :: l, a, h, hp => by
    simp only [pth, chn] at *
    exact ⟨h.1, hp c (by simp), pth_chn l c h.2.2 (fun x hx => hp x (List.mem_cons_of_mem _ hx))⟩
theorem chn_congr : ∀ (l : List Int) (a : Int), (∀ s ∈ a :: l, N' s = N s) → chn N a l → chn N' a l
  | [], a, hN, h => by
    simp only [chn] at *
    rw [hN a (by simp)]
    exact h
  | c :: l, a, hN, h => by
    simp only [chn] at *
    rw [hN a (by simp)]
    exact ⟨h.1, h.2.1, chn_congr l c (fun s hs => hN s (List.mem_cons_of_mem _ hs)) h.2.2⟩
/-- A chain is what the list finds. -/
theorem chn_lstF : ∀ (l : List Int) (n : Nat) (met : List Int) (a : Int), chn N a l → (met ++ l).Nodup → l.length < n → lstF N n met (N a) = met ++ l
  | [], n, met, a, h, _, hn => by
    obtain ⟨n, rfl⟩ : ∃ m, n = m + 1 := ⟨n - 1, by simp at hn; omega⟩
    simp only [chn] at h
    rw [lstF, if_neg (by omega), List.append_nil]
  | c :: l, n, met, a, h, hd, hn => by
    obtain ⟨n, rfl⟩ : ∃ m, n = m + 1 := ⟨n - 1, by simp at hn; omega⟩
    simp only [chn] at h
    have hc : c ∉ met := by
      intro hm
      rw [List.nodup_append] at hd
      exact hd.2.2 c hm c (by simp) rfl
    rw [lstF, h.1, if_pos ⟨h.2.1, hc⟩, chn_lstF l n (met ++ [c]) c h.2.2 (by simpa using hd) (by simp at hn; omega)]
    simp
theorem chn_lst {l : List Int} (h : chn N 0 l) (hd : l.Nodup) (hn : l.length ≤ 4096) : lst N = l := by
  unfold lst
  rw [chn_lstF l 4097 [] 0 h (by simpa using hd) (by omega)]
  simp
/-- Slots that are in: each one's Next is in, and leads back. -/
structure Rt (N P : Int → Int) (S : Int → Prop) : Prop where
  z : S 0
  ge : ∀ s, S s → 0 ≤ s ∧ s ≤ 4096
  nx : ∀ s, S s → S (N s) ∧ P (N s) = s
theorem pth_prev : ∀ (m : List Int) (x y : Int), pth N P x m y → ∀ c ∈ m ++ [y], P c ∈ x :: m
  | [], x, y, h, c, hc => by
    simp only [pth] at h
    simp only [List.nil_append, List.mem_singleton] at hc
    subst hc
    rw [h.2]
    simp
  | d :: m, x, y, h, c, hc => by
    simp only [pth] at h
    rcases List.mem_cons.1 hc with rfl | hc
    · rw [h.2.1]; simp
    · exact List.mem_cons_of_mem _ (pth_prev m d y h.2.2 c hc)
theorem Rt.lstF {S : Int → Prop} (h : Rt N P S) : ∀ (n : Nat) (met : List Int) (a : Int), S a → ((met = [] ∧ a = 0) ∨ ∃ m, met = m ++ [a] ∧ pth N P 0 m a) → met.Nodup → (∀ x ∈ met, 0 < x ∧ S x) → 4097 ≤ n + met.length →
    pth N P 0 (Go.Proofs.Ytkoelbdmpnelhaa.lstF N n met (N a)) 0 ∧ (Go.Proofs.Ytkoelbdmpnelhaa.lstF N n met (N a)).Nodup ∧ ∀ x ∈ Go.Proofs.Ytkoelbdmpnelhaa.lstF N n met (N a), 0 < x ∧ S x
  | 0, met, a, _, _, hd, hp, hn => by
    exfalso
    have : met.length ≤ ((List.range 4096).map fun (i : Nat) => ((i : Int) + 1)).length := nodup_len met _ hd (fun x hx => by
      have := hp x hx
      have := h.ge x this.2
      exact List.mem_map.2 ⟨(x - 1).toNat, List.mem_range.2 (by omega), by omega⟩)
    simp at this
    omega
  | n + 1, met, a, ha, hq, hd, hp, hn => by
    obtain ⟨hN, hP⟩ := h.nx a ha
    have h0 := (h.ge _ hN).1
    have hpa : ∀ y, N a = y → pth N P 0 met y := fun y hy => by
      rcases hq with ⟨rfl, rfl⟩ | ⟨m, rfl, hm⟩
      · exact ⟨hy, by rw [← hy, hP]⟩
      · exact (pth_app m 0 a [] y).2 ⟨hm, hy, by rw [← hy, hP]⟩
    by_cases hz : 0 < N a ∧ N a ∉ met
    · rw [Go.Proofs.Ytkoelbdmpnelhaa.lstF, if_pos hz]
      refine h.lstF n (met ++ [N a]) (N a) hN (.inr ⟨met, rfl, hpa _ rfl⟩) ?_ (fun x hx => ?_) (by simp; omega)
      · rw [List.nodup_append]
        exact ⟨hd, by simp, fun x hx y hy e => by
          rw [List.mem_singleton.1 hy] at e
          exact hz.2 (e ▸ hx)⟩
      · rcases List.mem_append.1 hx with hx | hx
        · exact hp x hx
        · rw [List.mem_singleton.1 hx]; exact ⟨hz.1, hN⟩
    · rw [Go.Proofs.Ytkoelbdmpnelhaa.lstF, if_neg hz]
      refine ⟨hpa 0 ?_, hd, hp⟩
      by_cases hz0 : N a = 0
      · exact hz0
      · exfalso
        have hm : N a ∈ met := Classical.not_not.1 (fun hm => hz ⟨by omega, hm⟩)
        rcases hq with ⟨rfl, _⟩ | ⟨m, rfl, hpm⟩
        · cases hm
        · have := pth_prev m 0 a hpm _ hm
          rw [hP] at this
          rcases List.mem_cons.1 this with e | e
          · have := (hp a (by simp)).1
            omega
          · rw [List.nodup_append] at hd
            exact hd.2.2 a e a (by simp) rfl
theorem Rt.lst {S : Int → Prop} (h : Rt N P S) : pth N P 0 (lst N) 0 ∧ (lst N).Nodup ∧ ∀ x ∈ lst N, 0 < x ∧ S x :=
  h.lstF 4097 [] 0 h.z (.inl ⟨rfl, rfl⟩) (by simp) (fun x hx => by cases hx) (by simp)

/-- Next and Prev of slots below len, none elsewhere. -/
structure Bnd (N P : Int → Int) (len : Nat) : Prop where
  n0 : ∀ a, -1 ≤ N a ∧ N a ≤ 4096
  p0 : ∀ a, -1 ≤ P a ∧ P a ≤ 4096
  out : ∀ a, ¬ (0 ≤ a ∧ a < (len : Int)) → N a = -1 ∧ P a = -1
def inS (N P : Int → Int) (s : Int) : Bool := decide (s = 0 ∨ 0 ≤ N s ∨ 0 ≤ P s)
def okS (N P : Int → Int) (s : Int) : Bool := !inS N P s || decide (0 ≤ N (N s) ∧ P (N s) = s)
def cntS (N P : Int → Int) (len : Nat) : Nat := (List.range len).countP fun (s : Nat) => inS N P (s : Int)
def wholeB (N P : Int → Int) (len : Nat) : Bool := ((List.range len).all fun s => okS N P s) && decide (((lst N).length : Int) = (cntS N P len : Int) - 1)
def plc (N : Int → Int) (n : Int) : Bool := decide (n = 0 ∨ (0 < n ∧ 0 ≤ N n))
def okR (N P : Int → Int) (s : Int) : Bool := if 0 < s ∧ N s < 0 then decide (P s = -1) else plc N (N s) && (plc N (P s) && decide (P (N s) = s))
def cntR (N : Int → Int) (len : Nat) : Nat := (List.range len).countP fun (s : Nat) => decide (0 < (s : Int) ∧ 0 ≤ N s)
def rightR (N P : Int → Int) (len : Nat) : Bool := ((List.range len).all fun s => okR N P s) && decide ((lst N).length = cntR N len)
section
variable {len : Nat}
theorem inS_lt (hb : Bnd N P len) (h1 : 1 ≤ len) {s : Int} (hs : inS N P s = true) : 0 ≤ s ∧ s < (len : Int) := by
  have hs := of_decide_eq_true hs
  by_cases e : 0 ≤ s ∧ s < (len : Int)
  · exact e
  · have := hb.out s e
    omega
/-- Where each slot's Next leads back, so does each one's Prev. -/
theorem Rt.of_ok (hb : Bnd N P len) (h1 : 1 ≤ len) (hlen : len ≤ 4097) (hok : ∀ s < len, okS N P ((s : Nat) : Int) = true) : Rt N P (fun s => inS N P s = true) := by
  refine ⟨by simp [inS], fun s hs => by have := inS_lt hb h1 hs; omega, fun s hs => ?_⟩
  have hlt := inS_lt hb h1 hs
  have := hok s.toNat (by omega)
  rw [show ((s.toNat : Nat) : Int) = s by omega] at this
  unfold okS at this
  rw [hs] at this
  have := of_decide_eq_true (show decide _ = true by simpa using this)
  exact ⟨decide_eq_true (.inr (.inl this.1)), this.2⟩
theorem Rt.back (hb : Bnd N P len) (h1 : 1 ≤ len) (h : Rt N P (fun s => inS N P s = true)) {t : Int} (ht : inS N P t = true) : inS N P (P t) = true ∧ N (P t) = t := by
  let A : List Int := ((List.range len).map fun (i : Nat) => (i : Int)).filter fun s => inS N P s
  have hA : ∀ s, s ∈ A ↔ inS N P s = true := fun s => by
    simp only [A, List.mem_filter, List.mem_map, List.mem_range]
    refine ⟨fun e => e.2, fun e => ⟨⟨s.toNat, ?_, ?_⟩, e⟩⟩
    · have := inS_lt hb h1 e; omega
    · have := inS_lt hb h1 e; omega
  have hAn : A.Nodup := by
    refine List.Pairwise.filter _ ?_
    rw [List.pairwise_map]
    exact List.nodup_range.imp (fun e h => e (by omega))
  have hBn : (A.map N).Nodup := by
    rw [List.nodup_iff_pairwise_ne, List.pairwise_map]
    refine List.Pairwise.imp_of_mem ?_ hAn
    intro a b ha hb2 hne e
    have e1 := (h.nx a ((hA a).1 ha)).2
    have e2 := (h.nx b ((hA b).1 hb2)).2
    rw [e, e2] at e1
    exact hne e1.symm
  have := nodup_full (A.map N) A hBn (fun x hx => by
    obtain ⟨s, hs, rfl⟩ := List.mem_map.1 hx
    exact (hA _).2 (h.nx s ((hA s).1 hs)).1) (by simp) t ((hA t).2 ht)
  obtain ⟨s, hs, rfl⟩ := List.mem_map.1 this
  have e1 := h.nx s ((hA s).1 hs)
  rw [e1.2]
  exact ⟨(hA s).1 hs, rfl⟩
theorem inS_nx (hb : Bnd N P len) (h1 : 1 ≤ len) (h : Rt N P (fun s => inS N P s = true)) {s : Int} : inS N P s = true ↔ 0 ≤ N s :=
  ⟨fun e => (inS_lt hb h1 (h.nx s e).1).1, fun e => decide_eq_true (.inr (.inl e))⟩
theorem cnt_eq (f g : Nat → Bool) (h0 : f 0 = true) (h0' : g 0 = false) (h : ∀ s, 0 < s → f s = g s) (n : Nat) : (List.range (n + 1)).countP f = (List.range (n + 1)).countP g + 1 := by
  induction n with
  | zero => simp [List.range_succ, h0, h0']
  | succ n ih =>
    have e : List.range (n + 1 + 1) = List.range (n + 1) ++ [n + 1] := List.range_succ
    rw [e, List.countP_append, List.countP_append, ih]
    simp only [List.countP_singleton]
    rw [h (n + 1) (by omega)]
    omega
theorem right_whole (hb : Bnd N P len) (h1 : 1 ≤ len) (hlen : len ≤ 4097) : rightR N P len = wholeB N P len := by
  rw [Bool.eq_iff_iff]
  unfold rightR wholeB
  simp only [Bool.and_eq_true, List.all_eq_true, List.mem_range, decide_eq_true_eq]
  have hcnt : Rt N P (fun s => inS N P s = true) → cntS N P len = cntR N len + 1 := fun h => by
    obtain ⟨n, rfl⟩ : ∃ n, len = n + 1 := ⟨len - 1, by omega⟩
    unfold cntS cntR
    refine cnt_eq (fun (s : Nat) => inS N P (s : Int)) (fun (s : Nat) => decide (0 < (s : Int) ∧ 0 ≤ N s)) h.z (by simp) (fun s hs => ?_) n
    show inS N P (s : Int) = decide (0 < (s : Int) ∧ 0 ≤ N s)
    rw [Bool.eq_iff_iff, inS_nx hb h1 h, decide_eq_true_eq]
    omega
  constructor
  · rintro ⟨ha, hl⟩
    have hok : ∀ s < len, okS N P ((s : Nat) : Int) = true := fun s hs => by
      have h := ha s hs
      have h00 := ha 0 (by omega)
      unfold okR at h h00
      rw [if_neg (by simp)] at h00
      simp only [Bool.and_eq_true, plc, decide_eq_true_eq] at h00
      unfold okS inS
      by_cases e : 0 < (s : Int) ∧ N s < 0
      · rw [if_pos e] at h
        have h := of_decide_eq_true h
        simp only [Bool.or_eq_true, Bool.not_eq_true', decide_eq_false_iff_not]
        left
        omega
      · rw [if_neg e] at h
        simp only [Bool.and_eq_true, plc, decide_eq_true_eq] at h
        simp only [Bool.or_eq_true, decide_eq_true_eq]
        right
        refine ⟨?_, h.2.2⟩
        rcases h.1 with e2 | e2
        · rw [e2]
          have := h00.1
          simp only [Int.natCast_zero] at this
          rcases this with e3 | e3
          · rw [e3]; exact Int.le_refl _
          · omega
        · exact e2.2
    have hr := Rt.of_ok hb h1 hlen hok
    refine ⟨hok, ?_⟩
    rw [hcnt hr, hl]
    omega
  · rintro ⟨hok, hl⟩
    have hr := Rt.of_ok hb h1 hlen hok
    refine ⟨fun s hs => ?_, ?_⟩
    · unfold okR
      by_cases e : 0 < (s : Int) ∧ N s < 0
      · rw [if_pos e]
        have : ¬ inS N P s = true := fun e2 => by
          have := (inS_nx hb h1 hr).1 e2
          omega
        have := mt (fun h => decide_eq_true h) this
        have := hb.p0 s
        exact decide_eq_true (by omega)
      · rw [if_neg e]
        have hs' : inS N P s = true := decide_eq_true (by omega)
        have hn := hr.nx s hs'
        have hp := hr.back hb h1 hs'
        have pl : ∀ t, inS N P t = true → plc N t = true := fun t ht => by
          have := inS_lt hb h1 ht
          have := (inS_nx hb h1 hr).1 ht
          exact decide_eq_true (by omega)
        rw [pl _ hn.1, pl _ hp.1, hn.2]
        simp
    · rw [hcnt hr] at hl
      omega
/-- A ring of these slots, behind the head, and of no others. -/
structure RingIs (N P : Int → Int) (len : Nat) (L : List Int) : Prop where
  p : pth N P 0 L 0
  nd : L.Nodup
  lt : ∀ x ∈ L, 0 < x ∧ x < (len : Int)
  out : ∀ s, s ∉ 0 :: L → N s = -1 ∧ P s = -1
theorem pth_next : ∀ (m : List Int) (x y : Int), pth N P x m y → ∀ c ∈ x :: m, N c ∈ m ++ [y] ∧ P (N c) = c
  | [], x, y, h, c, hc => by
    simp only [pth] at h
    rw [List.mem_singleton.1 hc, h.1]
    exact ⟨by simp, h.2⟩
  | d :: m, x, y, h, c, hc => by
    simp only [pth] at h
    rcases List.mem_cons.1 hc with rfl | hc
    · rw [h.1]; exact ⟨by simp, h.2.1⟩
    · have := pth_next m d y h.2.2 c hc
      exact ⟨List.mem_cons_of_mem _ this.1, this.2⟩
theorem RingIs.few {L : List Int} (h : RingIs N P len L) : L.length + 1 ≤ len ∨ L = [] := by
  cases L with
  | nil => exact .inr rfl
  | cons a r =>
    left
    have h1 := h.lt a (by simp)
    have : (a :: r).length ≤ ((List.range (len - 1)).map fun (i : Nat) => ((i : Int) + 1)).length := nodup_len _ _ h.nd (fun x hx => by
      have := h.lt x hx
      exact List.mem_map.2 ⟨(x - 1).toNat, List.mem_range.2 (by omega), by omega⟩)
    simp at this
    simp
    omega
theorem RingIs.lst {L : List Int} (h : RingIs N P len L) (hlen : len ≤ 4097) : lst N = L :=
  chn_lst (pth_chn L 0 h.p (fun x hx => (h.lt x hx).1)) h.nd (by have := h.few; rcases this with e | e; omega; rw [e]; simp)
theorem RingIs.n0 {L : List Int} (h : RingIs N P len L) : ∀ s ∈ 0 :: L, 0 ≤ N s := fun s hs => by
  have := (pth_next L 0 0 h.p s hs).1
  rcases List.mem_append.1 this with e | e
  · have := h.lt _ e; omega
  · rw [List.mem_singleton.1 e]; exact Int.le_refl _
theorem RingIs.inS {L : List Int} (h : RingIs N P len L) (s : Int) : inS N P s = true ↔ s ∈ 0 :: L := by
  constructor
  · intro e
    have e := of_decide_eq_true e
    refine Classical.not_not.1 fun hn => ?_
    have := h.out s hn
    have : s ≠ 0 := fun e2 => hn (by rw [e2]; simp)
    omega
  · intro e
    exact decide_eq_true (.inr (.inl (h.n0 s e)))
theorem RingIs.whole {L : List Int} (h : RingIs N P len L) (h1 : 1 ≤ len) (hlen : len ≤ 4097) : wholeB N P len = true := by
  unfold wholeB
  simp only [Bool.and_eq_true, List.all_eq_true, List.mem_range, decide_eq_true_eq]
  refine ⟨fun s _ => ?_, ?_⟩
  · unfold okS
    simp only [Bool.or_eq_true, Bool.not_eq_true', decide_eq_true_eq]
    by_cases e : ((s : Nat) : Int) ∈ 0 :: L
    · right
      have := pth_next L 0 0 h.p _ e
      refine ⟨h.n0 _ ?_, this.2⟩
      rcases List.mem_append.1 this.1 with e | e
      · exact List.mem_cons_of_mem _ e
      · rw [List.mem_singleton.1 e]; simp
    · left
      rw [Bool.eq_false_iff]
      exact fun e2 => e ((h.inS _).1 e2)
  · rw [h.lst hlen]
    have hA : ∀ n : Nat, n ≤ len → ((List.range n).countP fun (s : Nat) => Go.Proofs.Ytkoelbdmpnelhaa.inS N P (s : Int)) = (((List.range n).map fun (i : Nat) => (i : Int)).filter fun s => Go.Proofs.Ytkoelbdmpnelhaa.inS N P s).length := fun n _ => by
      rw [← List.countP_eq_length_filter, List.countP_map]
      rfl
    unfold cntS
    rw [hA len (Nat.le_refl _)]
    have e1 : (0 :: L).length ≤ (((List.range len).map fun (i : Nat) => (i : Int)).filter fun s => Go.Proofs.Ytkoelbdmpnelhaa.inS N P s).length := nodup_len _ _ (List.nodup_cons.2 ⟨fun e => by have := h.lt 0 e; omega, h.nd⟩) (fun x hx => by
      refine List.mem_filter.2 ⟨List.mem_map.2 ⟨x.toNat, List.mem_range.2 ?_, ?_⟩, (h.inS x).2 hx⟩
      all_goals
        rcases List.mem_cons.1 hx with rfl | hx
        · simp; try omega
        · have := h.lt x hx; omega)
    have e2 : (((List.range len).map fun (i : Nat) => (i : Int)).filter fun s => Go.Proofs.Ytkoelbdmpnelhaa.inS N P s).length ≤ (0 :: L).length := nodup_len _ _ (by
      refine List.Pairwise.filter _ ?_
      rw [List.pairwise_map]
      exact List.nodup_range.imp (fun e h => e (by omega))) (fun x hx => (h.inS x).1 (List.mem_filter.1 hx).2)
    simp only [List.length_cons] at e1 e2
    omega
theorem RingIs.of_whole (hb : Bnd N P len) (h1 : 1 ≤ len) (hlen : len ≤ 4097) (h : wholeB N P len = true) : RingIs N P len (Go.Proofs.Ytkoelbdmpnelhaa.lst N) := by
  unfold wholeB at h
  simp only [Bool.and_eq_true, List.all_eq_true, List.mem_range, decide_eq_true_eq] at h
  obtain ⟨hok, hl⟩ := h
  have hr := Rt.of_ok hb h1 hlen hok
  obtain ⟨q1, q2, q3⟩ := hr.lst
  refine ⟨q1, q2, fun x hx => ⟨(q3 x hx).1, (inS_lt hb h1 (q3 x hx).2).2⟩, fun s hs => ?_⟩
  have hn : ¬ Go.Proofs.Ytkoelbdmpnelhaa.inS N P s = true := fun e => by
    have := nodup_full (0 :: Go.Proofs.Ytkoelbdmpnelhaa.lst N) (((List.range len).map fun (i : Nat) => (i : Int)).filter fun s => Go.Proofs.Ytkoelbdmpnelhaa.inS N P s) (List.nodup_cons.2 ⟨fun e => by have := (q3 0 e).1; omega, q2⟩) (fun x hx => by
      have hx2 : Go.Proofs.Ytkoelbdmpnelhaa.inS N P x = true := by
        rcases List.mem_cons.1 hx with rfl | hx
        · exact hr.z
        · exact (q3 x hx).2
      have := inS_lt hb h1 hx2
      exact List.mem_filter.2 ⟨List.mem_map.2 ⟨x.toNat, List.mem_range.2 (by omega), by omega⟩, hx2⟩) (by
      rw [← List.countP_eq_length_filter, List.countP_map]
      have : List.countP ((fun s => Go.Proofs.Ytkoelbdmpnelhaa.inS N P s) ∘ fun (i : Nat) => (i : Int)) (List.range len) = cntS N P len := rfl
      rw [this]
      simp only [List.length_cons]
      omega) s (by
      have := inS_lt hb h1 e
      exact List.mem_filter.2 ⟨List.mem_map.2 ⟨s.toNat, List.mem_range.2 (by omega), by omega⟩, e⟩)
    exact hs this
  have hn := mt (fun h => decide_eq_true h) hn
  have := hb.n0 s
  have := hb.p0 s
  omega

def upd (f : Int → Int) (s v : Int) : Int → Int := fun a => if a = s then v else f a
theorem upd_same (f : Int → Int) (s : Int) : upd f s (f s) = f := by
  funext a
  unfold upd
  split
  · rename_i h; rw [h]
  · rfl
theorem upd_at (f : Int → Int) (s v : Int) : upd f s v s = v := if_pos rfl
theorem upd_ne (f : Int → Int) {s a : Int} (v : Int) (h : a ≠ s) : upd f s v a = f a := if_neg h
section
variable {L : List Int} {s : Int}
/-- A slot joins: the first operation. -/
theorem RingIs.join1 (h : RingIs N P len L) (hlen : len ≤ 4097) (hs : s ∉ 0 :: L) (v : Int) : Go.Proofs.Ytkoelbdmpnelhaa.lst (upd N s v) = L := by
  refine chn_lst (chn_congr L 0 (fun a ha => upd_ne N v (fun e => hs (e ▸ ha))) (pth_chn L 0 h.p (fun x hx => (h.lt x hx).1))) h.nd ?_
  have := h.few; rcases this with e | e; omega; rw [e]; simp
theorem RingIs.joinE (h : RingIs N P len []) (hs0 : 0 < s) (hsl : s < (len : Int)) : N 0 = 0 ∧ P 0 = 0 ∧ RingIs (upd (upd N s 0) 0 s) (upd (upd P s 0) 0 s) len [s] := by
  have hp := h.p
  simp only [pth] at hp
  refine ⟨hp.1, hp.2, ?_, by simp, fun x hx => by rw [List.mem_singleton.1 hx]; exact ⟨hs0, hsl⟩, fun a ha => ?_⟩
  · simp only [pth]
    have h0 : s ≠ 0 := by omega
    rw [upd_at, upd_ne _ _ h0, upd_at, upd_ne _ _ h0, upd_at, upd_at]
    exact ⟨rfl, rfl, rfl, rfl⟩
  · have h0 : a ≠ 0 := fun e => ha (by simp [e])
    have h1 : a ≠ s := fun e => ha (by simp [e])
    rw [upd_ne _ _ h0, upd_ne _ _ h0, upd_ne _ _ h1, upd_ne _ _ h1]
    exact h.out a (by simpa using h0)
theorem RingIs.joinC {b : Int} {l : List Int} (h : RingIs N P len (b :: l)) (hs : s ∉ 0 :: b :: l) (hs0 : 0 < s) (hsl : s < (len : Int)) : N 0 = b ∧ 0 < b ∧ b < (len : Int) ∧ b ≠ s ∧
    RingIs (upd (upd N s b) 0 s) (upd (upd P s 0) b s) len (s :: b :: l) := by
  have hp := h.p
  simp only [pth] at hp
  have hb := h.lt b (by simp)
  have hbs : b ≠ s := fun e => hs (by simp [e])
  have hnd := List.nodup_cons.1 h.nd
  refine ⟨hp.1, hb.1, hb.2, hbs, ?_, List.nodup_cons.2 ⟨fun e => hs (List.mem_cons_of_mem _ e), h.nd⟩, fun x hx => ?_, fun a ha => ?_⟩
  · simp only [pth]
    rw [upd_at, upd_ne _ _ (by omega : s ≠ 0), upd_at, upd_at, upd_ne _ _ (fun e => hbs e.symm), upd_at]
    refine ⟨rfl, rfl, rfl, rfl, pth_congr l b 0 (fun a ha => ?_) (fun a ha => ?_) hp.2.2⟩
    · have h1 : a ≠ s := fun e => hs (by rw [← e]; exact List.mem_cons_of_mem _ ha)
      have h2 : a ≠ 0 := fun e => by have := h.lt a ha; omega
      rw [upd_ne _ _ h2, upd_ne _ _ h1]
    · have h1 : a ≠ b := fun e => by
        rcases List.mem_append.1 ha with e2 | e2
        · exact hnd.1 (e ▸ e2)
        · rw [List.mem_singleton.1 e2] at e; omega
      have h2 : a ≠ s := fun e => by
        rcases List.mem_append.1 ha with e2 | e2
        · exact hs (by rw [← e]; simp [e2])
        · rw [List.mem_singleton.1 e2] at e; omega
      rw [upd_ne _ _ h1, upd_ne _ _ h2]
  · rcases List.mem_cons.1 hx with rfl | hx
    · exact ⟨hs0, hsl⟩
    · exact h.lt x hx
  · have h0 : a ≠ 0 := fun e => ha (by simp [e])
    have h1 : a ≠ s := fun e => ha (by simp [e])
    have h2 : a ≠ b := fun e => ha (by simp [e])
    rw [upd_ne _ _ h0, upd_ne _ _ h1, upd_ne _ _ h2, upd_ne _ _ h1]
    exact h.out a (fun e => ha (by
      rcases List.mem_cons.1 e with e | e
      · rw [e]; simp
      · exact List.mem_cons_of_mem _ (List.mem_cons_of_mem _ e)))
theorem joinC2 {b : Int} (hbs : b ≠ s) : upd (upd N s b) b (N b) = upd N s b := by
  have : upd N s b b = N b := upd_ne _ _ hbs
  rw [← this, upd_same]

theorem getLastD_mem : ∀ (x : Int) (r : List Int) (c : Int), (x :: r).getLastD c ∈ x :: r
  | x, [], c => by simp
  | x, y :: r, c => by
    rw [List.getLastD_cons]
    exact List.mem_cons_of_mem _ (getLastD_mem y r x)
theorem getLastD_in (l : List Int) (a : Int) : l.getLastD a ∈ a :: l := by
  cases l with
  | nil => simp
  | cons x r => exact List.mem_cons_of_mem _ (getLastD_mem x r a)
/-- The path leads elsewhere from its last slot. -/
theorem pth_turn : ∀ (l : List Int) (a b r : Int), pth N P a l b → (a :: l).Nodup → (∀ x ∈ a :: l, x ≠ l.getLastD a → N' x = N x) → N' (l.getLastD a) = r → (∀ x ∈ l, P' x = P x) → P' r = l.getLastD a → pth N' P' a l r
  | [], a, b, r, _, _, _, h2, _, h4 => by simp only [pth, List.getLastD_nil] at *; exact ⟨h2, h4⟩
  | c :: l, a, b, r, h, hd, h1, h2, h3, h4 => by
    simp only [pth] at *
    rw [List.getLastD_cons] at h1 h2 h4
    have hd' := List.nodup_cons.1 hd
    have hm : l.getLastD c ∈ c :: l := by
      cases l with
      | nil => simp
      | cons x r => exact List.mem_cons_of_mem _ (getLastD_mem x r c)
    refine ⟨by rw [h1 a (by simp) (fun e => hd'.1 (by rw [e]; exact hm))]; exact h.1, by rw [h3 c (by simp)]; exact h.2.1, pth_turn l c b r h.2.2 hd'.2 (fun x hx hne => h1 x (List.mem_cons_of_mem _ hx) hne) h2 (fun x hx => h3 x (List.mem_cons_of_mem _ hx)) h4⟩
theorem pth_last : ∀ (l : List Int) (a b : Int), pth N P a l b → N (l.getLastD a) = b ∧ P b = l.getLastD a
  | [], a, b, h => h
  | c :: l, a, b, h => by
    simp only [pth] at h
    rw [List.getLastD_cons]
    exact pth_last l c b h.2.2
theorem headD_in (l : List Int) (a : Int) : l.headD a ∈ l ++ [a] := by cases l <;> simp
theorem pth_head : ∀ (l : List Int) (a b : Int), pth N P a l b → N a = l.headD b ∧ P (l.headD b) = a
  | [], _, _, h => h
  | _ :: _, _, _, h => ⟨h.1, h.2.1⟩
/-- A slot goes. -/
theorem RingIs.cut {l1 l2 : List Int} (h : RingIs N P len (l1 ++ s :: l2)) (hlen : len ≤ 4097) : ∃ q r : Int, N s = r ∧ P s = q ∧ 0 ≤ q ∧ q < (len : Int) ∧ 0 ≤ r ∧ r < (len : Int) ∧ s ≠ q ∧ s ≠ r ∧
    (q = r → l1 = [] ∧ l2 = [] ∧ q = 0) ∧ Go.Proofs.Ytkoelbdmpnelhaa.lst (upd N q r) = l1 ++ l2 ∧ (r ≠ q → upd (upd N q r) r (N r) = upd N q r) ∧ Go.Proofs.Ytkoelbdmpnelhaa.lst (upd (upd N q r) s (-1)) = l1 ++ l2 ∧ RingIs (upd (upd N q r) s (-1)) (upd (upd P r q) s (-1)) len (l1 ++ l2) := by
  have hp := (pth_app l1 0 s l2 0).1 h.p
  have e1 := pth_head l2 s 0 hp.2
  have e2 := pth_last l1 0 s hp.1
  have h0 : ∀ x ∈ l1 ++ s :: l2, x ≠ 0 := fun x hx e => by have := h.lt x hx; omega
  have hd := h.nd
  rw [List.nodup_append] at hd
  obtain ⟨d1, d2, d3⟩ := hd
  have d2' := List.nodup_cons.1 d2
  have hl1 : 1 ≤ len := by have := h.lt s (by simp); omega
  obtain ⟨q, hq⟩ : ∃ q, l1.getLastD 0 = q := ⟨_, rfl⟩
  obtain ⟨r, hr⟩ : ∃ r, l2.headD 0 = r := ⟨_, rfl⟩
  have hqm : q ∈ 0 :: l1 := by rw [← hq]; exact getLastD_in l1 0
  have hrm : r ∈ l2 ++ [0] := by rw [← hr]; exact headD_in l2 0
  have hsm := h0 s (by simp)
  have hs1 : s ∉ 0 :: l1 := fun e => by
    rcases List.mem_cons.1 e with e | e
    · exact hsm e
    · exact d3 s e s (by simp) rfl
  have hs2 : s ∉ l2 ++ [0] := fun e => by
    rcases List.mem_append.1 e with e | e
    · exact d2'.1 e
    · exact hsm (List.mem_singleton.1 e)
  have hsq : s ≠ q := fun e => hs1 (e ▸ hqm)
  have hsr : s ≠ r := fun e => hs2 (e ▸ hrm)
  have hrq : r = q → l1 = [] ∧ l2 = [] ∧ q = 0 := fun e => by
    have hq0 : q = 0 := by
      rcases List.mem_cons.1 hqm with e3 | e3
      · exact e3
      · exfalso
        rw [e] at hrm
        rcases List.mem_append.1 hrm with e4 | e4
        · exact d3 q e3 q (List.mem_cons_of_mem _ e4) rfl
        · exact h0 q (by simp [e3]) (List.mem_singleton.1 e4)
    refine ⟨?_, ?_, hq0⟩
    · cases l1 with
      | nil => rfl
      | cons x t =>
        exfalso
        have := getLastD_mem x t 0
        rw [hq] at this
        exact h0 q (List.mem_append.2 (.inl this)) hq0
    · cases l2 with
      | nil => rfl
      | cons x t =>
        exfalso
        simp only [List.headD_cons] at hr
        exact h0 x (by simp) (by rw [hr, e, hq0])
  have nd12 : (l1 ++ l2).Nodup := by
    rw [List.nodup_append]
    exact ⟨d1, d2'.2, fun a ha b hb => d3 a ha b (List.mem_cons_of_mem _ hb)⟩
  have hR : ∀ N' : Int → Int, N' q = r → (∀ x, x ≠ q → x ≠ s → N' x = N x) → ∀ P' : Int → Int, P' r = q → (∀ x, x ≠ r → x ≠ s → P' x = P x) → pth N' P' 0 (l1 ++ l2) 0 := by
    intro N' n1 n2 P' p1 p2
    have hA : pth N' P' 0 l1 r := pth_turn l1 0 s r hp.1 (List.nodup_cons.2 ⟨fun e => h0 0 (by simp [e]) rfl, d1⟩) (fun x hx hne => n2 x (by rw [hq] at hne; exact hne) (fun e => hs1 (e ▸ hx))) (by rw [hq]; exact n1) (fun x hx => p2 x (fun e => ?_) (fun e => hs1 (by rw [← e]; exact List.mem_cons_of_mem _ hx))) (by rw [hq]; exact p1)
    · cases l2 with
      | nil =>
        simp only [List.headD_nil] at hr
        subst hr
        simpa using hA
      | cons d l3 =>
        simp only [List.headD_cons] at hr
        subst hr
        refine (pth_app l1 0 d l3 0).2 ⟨hA, pth_congr l3 d 0 (fun x hx => n2 x (fun e => ?_) (fun e => d2'.1 (e ▸ hx))) (fun x hx => p2 x (fun e => ?_) (fun e => hs2 (by rw [← e]; exact List.mem_cons_of_mem _ hx))) hp.2.2.2⟩
        · rw [e] at hx
          rcases List.mem_cons.1 hqm with e3 | e3
          · exact h0 q (List.mem_append.2 (.inr (List.mem_cons_of_mem _ hx))) e3
          · exact d3 q e3 q (List.mem_cons_of_mem _ hx) rfl
        · have d4 := List.nodup_cons.1 d2'.2
          rcases List.mem_append.1 hx with e3 | e3
          · exact d4.1 (e ▸ e3)
          · have := List.mem_singleton.1 e3
            exact h0 d (by simp) (by rw [← e, this])
    · rw [e] at hx
      rcases List.mem_append.1 hrm with e3 | e3
      · exact d3 r hx r (List.mem_cons_of_mem _ e3) rfl
      · exact h0 r (by simp [hx]) (List.mem_singleton.1 e3)
  have hlt : ∀ x ∈ l1 ++ l2, 0 < x ∧ x < (len : Int) := fun x hx => h.lt x (by
    rcases List.mem_append.1 hx with e | e
    · simp [e]
    · simp [e])
  have few : (l1 ++ l2).length ≤ 4096 := by
    have := h.few
    simp only [List.length_append, List.length_cons] at *
    rcases this with e | e
    · omega
    · simp at e
  have rng : ∀ x, x ∈ 0 :: l1 ∨ x ∈ l2 ++ [0] → 0 ≤ x ∧ x < (len : Int) := fun x hx => by
    have : x = 0 ∨ x ∈ l1 ++ l2 := by
      rcases hx with e | e
      · rcases List.mem_cons.1 e with e | e
        · exact .inl e
        · exact .inr (List.mem_append.2 (.inl e))
      · rcases List.mem_append.1 e with e | e
        · exact .inr (List.mem_append.2 (.inr e))
        · exact .inl (List.mem_singleton.1 e)
    rcases this with e | e
    · omega
    · have := hlt x e; omega
  rw [hr] at e1
  rw [hq] at e2
  have rq := rng q (.inl hqm)
  have rr := rng r (.inr hrm)
  have L1 : ∀ N' : Int → Int, N' q = r → (∀ x, x ≠ q → x ≠ s → N' x = N x) → Go.Proofs.Ytkoelbdmpnelhaa.lst N' = l1 ++ l2 := fun N' n1 n2 =>
    chn_lst (pth_chn _ 0 (hR N' n1 n2 (upd P r q) (upd_at _ _ _) (fun x hx _ => upd_ne _ _ hx)) (fun x hx => (hlt x hx).1)) nd12 few
  refine ⟨q, r, e1.1, e2.2, rq.1, rq.2, rr.1, rr.2, hsq, hsr, fun e => hrq e.symm, L1 _ (upd_at _ _ _) (fun x hx _ => upd_ne _ _ hx), fun e => ?_, L1 _ ?_ ?_, ?_, nd12, hlt, fun a ha => ?_⟩
  · have : upd N q r r = N r := upd_ne _ _ e
    rw [← this, upd_same]
  · rw [upd_ne _ _ (fun e => hsq e.symm), upd_at]
  · intro x hx hxs
    rw [upd_ne _ _ hxs, upd_ne _ _ hx]
  · refine hR _ ?_ (fun x hx hxs => ?_) _ ?_ (fun x hx hxs => ?_)
    · rw [upd_ne _ _ (fun e => hsq e.symm), upd_at]
    · rw [upd_ne _ _ hxs, upd_ne _ _ hx]
    · rw [upd_ne _ _ (fun e => hsr e.symm), upd_at]
    · rw [upd_ne _ _ hxs, upd_ne _ _ hx]
  · by_cases e : a = s
    · rw [e, upd_at, upd_at]
      exact ⟨rfl, rfl⟩
    · have hq2 : a ≠ q := fun e2 => ha (by
        rw [e2]
        rcases List.mem_cons.1 hqm with e3 | e3
        · rw [e3]; simp
        · simp [e3])
      have hr2 : a ≠ r := fun e2 => ha (by
        rw [e2]
        rcases List.mem_append.1 hrm with e3 | e3
        · simp [e3]
        · rw [List.mem_singleton.1 e3]; simp)
      rw [upd_ne _ _ e, upd_ne _ _ e, upd_ne _ _ hq2, upd_ne _ _ hr2]
      exact h.out a (fun e3 => ha (by
        simp only [List.mem_cons, List.mem_append] at e3 ⊢
        rcases e3 with e3 | e3 | e3 | e3
        · exact .inl e3
        · exact .inr (.inl e3)
        · exact (e e3).elim
        · exact .inr (.inr e3)))
end
end
end
end Go.Proofs.Ytkoelbdmpnelhaa
