/- Are items few (few): if the answer is yes, they are a hundred at most. A row of items of the call's own. -/
import Derived.Test.YtajmnhnepoomjaaExLives
namespace Go.Proofs.Ytajmnhnepoomjaa
open Go.RowKit Go.Shelf Go.Sort Go.Lib

set_option maxRecDepth 100000 in
set_option maxHeartbeats 4000000 in
theorem few_any (A : Option Addr) (its : List ItT) (ca : Nat) (w : World) (hI : ItemsAt w w.heap.size A its) :
    Calls Try.prog 12 #[.slice A its.length ca] w fun e w' => ∃ b, e = .returned (.bool b) ∧ (b = true → its.length ≤ 100) ∧ Below w.heap.size w w' := by
  by_cases hle : its.length ≤ 100
  · have hle2 : ¬ (100 : Int) < (its.length : Int) := by omega
    go_enter Try.func12, Try.ntmps12
    go_wp2
    go_loopw [10] (fun i wr => ∃ k : Nat, k ≤ its.length ∧ i = .int .i64 k ∧ Below w.heap.size w wr) (fun i _ => its.length - (intOf i).toNat)
    case atStart => exact ⟨0, Nat.zero_le _, rfl, Below.refl _ _⟩
    case round =>
      obtain ⟨k, hk, rfl, hbl⟩ := hrel
      by_cases hlt : k < its.length
      · obtain ⟨⟨b, off, rfl, hb, h0, h1, h2⟩, -⟩ := hI k _ (List.getElem?_eq_getElem hlt)
        replace h0 := (hbl.cell (p := ⟨b, off + k * 3, none⟩) hb).trans h0
        replace h1 := (hbl.cell (p := ⟨b, off + k * 3 + 1, none⟩) hb).trans h1
        replace h2 := (hbl.cell (p := ⟨b, off + k * 3 + 2, none⟩) hb).trans h2
        generalize its[k] = z at *
        have hkl : (k : Int) < (its.length : Int) := by omega
        have hk0 : (0 : Int) ≤ (k : Int) := by omega
        have hkn : ((k : Int)).toNat = k := Int.toNat_natCast k
        have HB := Lib.hid hbl
        have HB2 := Lib.hid (hbl.alloc hbl.size (.cells #[.int .u64 z.id, .slice z.A z.vec.length z.cap, .int .u64 z.tags] 36))
        clear hbl
        by_cases hv : (100 : Int) < (z.vec.length : Int)
        · go_wp2
          go_ret
          exact ⟨_, rfl, (fun _ => hle), HB2.out⟩
        · go_wp2
          go_roundw
          case rel => exact ⟨k + 1, by omega, by go_num, HB2.out⟩
          case measure => simp [intOf]; omega
      · go_wp2
        go_ret
        exact ⟨_, rfl, fun _ => hle, hbl⟩
  · have hle2 : (100 : Int) < (its.length : Int) := by omega
    go_enter Try.func12, Try.ntmps12
    go_wp2
    go_ret
    exact ⟨false, rfl, (fun h => by cases h), Below.refl _ _⟩

/-- The cells of an item. -/
def encT (z : ItT) : List Value := [.int .u64 z.id, .slice z.A z.vec.length z.cap, .int .u64 z.tags]
def cellsT (L : List ItT) : List Value := L.flatMap encT
theorem cellsT_snoc (L : List ItT) (x : ItT) : cellsT (L ++ [x]) = cellsT L ++ encT x := by simp [cellsT]
theorem cellsT_get : ∀ (zs : List ItT) (k c : Nat) (h : k < zs.length), c < 3 → (cellsT zs)[k * 3 + c]? = some ((encT zs[k])[c]!)
  | z :: r, 0, c, _, hc => by
    have e : cellsT (z :: r) = encT z ++ cellsT r := rfl
    rw [e, List.getElem?_append_left (by show 0 * 3 + c < 3; omega)]
    match c, hc with
    | 0, _ => rfl
    | 1, _ => rfl
    | 2, _ => rfl
  | z :: r, k + 1, c, h, hc => by
    have e : cellsT (z :: r) = encT z ++ cellsT r := rfl
    have hl : (encT z).length = 3 := rfl
    rw [e, List.getElem?_append_right (by rw [hl]; omega), hl, show (k + 1) * 3 + c - 3 = k * 3 + c by omega]
    exact cellsT_get r k c (by simpa using h) hc
theorem itemsT_own {w : World} {base c n : Nat} {A : Option Addr} {L : List ItT} (h : w.ownsRow base 36 3 (.slice A n c) n (cellsT L)) (hn : L.length = n) (hV : ∀ z ∈ L, VecB w w.heap.size z.A z.vec) : ItemsAt w w.heap.size A L := by
  intro k z hz
  obtain ⟨hk, rfl⟩ := List.getElem?_eq_some_iff.1 hz
  refine ⟨?_, hV _ (List.getElem_mem hk)⟩
  obtain ⟨g, rfl, hg, hgw⟩ := ownPos h (by omega)
  have gc : ∀ r, r < 3 → w.cell? ⟨g, k * 3 + r, none⟩ = some ((encT L[k])[r]!) := fun r hr => by
    rw [h.cellAt (k * 3 + r) (by omega), cellsT_get L k r hk hr]
  exact ⟨g, 0, rfl, hgw, by rw [Nat.zero_add]; exact gc 0 (by decide), by rw [Nat.zero_add]; exact gc 1 (by decide), by rw [Nat.zero_add]; exact gc 2 (by decide)⟩
theorem infoT : (Try.prog.info? 36).map (fun i => (i.zero, i.size, i.bytes)) = some (some (.agg #[.int .u64 0, .slice none 0 0, .int .u64 0]), 3, 40) := by kernel_rfl

/-- Items in another order have the same hits in order. -/
theorem ordH_perm (q : List Int) (m : Int) {l l' : List ItT} (h : l.Perm l') : ordH q m l = ordH q m l' := sortH_of_perm ((h.filter _).map _)
theorem search_back (q : List Int) (m : Int) (l : List ItT) (k : Int) : searchL q m l.reverse k = searchL q m l k := by
  unfold searchL
  rw [ordH_perm q m l.reverse_perm]
theorem rev_snoc (l : List ItT) (k : Nat) (h : k < l.length) : (l.reverse).take (k + 1) = (l.reverse).take k ++ [l[l.length - 1 - k]] := by
  rw [List.take_succ_eq_append_getElem (by simpa using h), List.getElem_reverse]

/-- Does a counted item have this hit? -/
def isIt (q : List Int) (m : Int) (x : HitT) (z : ItT) : Bool := z.id == x.2 && (bits .and .u64 z.tags m == m && distI q z == x.1)
theorem isIt_ex (q : List Int) (m : Int) (l : List ItT) (x : HitT) (h : x ∈ ordH q m l) : l.any (isIt q m x) = true := by
  have h2 : x ∈ hitsL q m l := (sortH_perm _).mem_iff.1 h
  obtain ⟨z, hz, rfl⟩ := List.mem_map.1 h2
  obtain ⟨h3, h4⟩ := List.mem_filter.1 hz
  refine List.any_eq_true.2 ⟨z, h3, ?_⟩
  unfold isIt hitOf
  unfold tagsOk at h4
  simp only [h4, beq_self_eq_true, Bool.and_self]
theorem any_next (f : ItT → Bool) (l : List ItT) (k : Nat) (h : k < l.length) : (l.take (k + 1)).any f = ((l.take k).any f || f l[k]) := by
  rw [List.take_succ_eq_append_getElem h, List.any_append]
  simp

end Go.Proofs.Ytajmnhnepoomjaa
