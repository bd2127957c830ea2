/- Ids in order: the sort of a map's list, by contract. -/
import Derived.Test.YtoaikdnooafjmaaImMem
import Derived.Test.YtoaikdnooafjmaaShelf
import Derived.Shelf.SlSortCmp.NoneTotal
import Derived.Deep.DeepCutAuto
import Derived.Handy
namespace Go.Proofs.Ytoaikdnooafjmaa
open Go.RowKit Go.Sort Go.Shelf

def cmpI (x y : Int) : Int := if x < y then -1 else if y < x then 1 else 0
theorem nanU_any (x : Int) (w : World) : Calls Try.prog 188 #[.int .u64 x] w fun e w' => e = .returned (.bool false) ∧ w = w' := by
  go_enter Try.func188, Try.ntmps188
  go_wp2
  go_ret
  exact ⟨ret_bool (by simp), rfl⟩
theorem cmpU_any (x y : Int) (w : World) : Calls Try.prog 153 #[.int .u64 x, .int .u64 y] w fun e w' => e = .returned (.int .i64 (cmpI x y)) ∧ w = w' := by
  rcases Int.lt_trichotomy x y with h | h | h
  · have hr : cmpI x y = -1 := if_pos h
    rw [hr]; clear hr
    go_enter Try.func153, Try.ntmps153
    go_wp2_with (go_at_call 188; refine (nanU_any _ _).mono ?_; rintro e w' ⟨rfl, rfl⟩)
    go_ret
    exact ⟨rfl, rfl⟩
  · have hr : cmpI x y = 0 := by unfold cmpI; rw [if_neg (by omega), if_neg (by omega)]
    rw [hr]; clear hr
    subst h
    go_enter Try.func153, Try.ntmps153
    go_wp2_with (go_at_call 188; refine (nanU_any _ _).mono ?_; rintro e w' ⟨rfl, rfl⟩)
    go_ret
    exact ⟨rfl, rfl⟩
  · have hr : cmpI x y = 1 := by unfold cmpI; rw [if_neg (by omega), if_pos h]
    have h' : ¬ x < y := by omega
    rw [hr]; clear hr
    go_enter Try.func153, Try.ntmps153
    go_wp2_with (go_at_call 188; refine (nanU_any _ _).mono ?_; rintro e w' ⟨rfl, rfl⟩)
    go_ret
    exact ⟨rfl, rfl⟩
def encN (e : EntI) : List Value := [.int .u64 e.1, .int .i64 e.2.1, .int .i64 e.2.2]
def cellsN (l : List EntI) : List Value := l.flatMap encN
def cmpE (x y : EntI) : Int := cmpI x.1 y.1
theorem ltE_iff (x y : EntI) : ltOf cmpE x y = true ↔ x.1 < y.1 := by
  unfold ltOf cmpE cmpI
  rw [decide_eq_true_iff]
  split
  · exact ⟨fun _ => by assumption, fun _ => by omega⟩
  · split <;> constructor <;> omega
theorem swoE : SWO (ltOf cmpE) where
  irrefl x := by
    cases e : ltOf cmpE x x
    · rfl
    · have := (ltE_iff x x).1 e; omega
  trans x y z h1 h2 := by
    have a1 := (ltE_iff x y).1 h1
    have a2 := (ltE_iff y z).1 h2
    exact (ltE_iff x z).2 (by omega)
  ntrans x y z h1 h2 := by
    have a1 : ¬ ltOf cmpE x y = true := by rw [h1]; decide
    have a2 : ¬ ltOf cmpE y z = true := by rw [h2]; decide
    rw [ltE_iff] at a1 a2
    cases e : ltOf cmpE x z
    · rfl
    · have := (ltE_iff x z).1 e; omega
theorem List1_any (x y : EntI) (W : World) :
    Calls Try.prog 152 #[.agg #[.int .u64 x.1, .int .i64 x.2.1, .int .i64 x.2.2], .agg #[.int .u64 y.1, .int .i64 y.2.1, .int .i64 y.2.2]] W fun e w' => e = .returned (.int .i64 (cmpE x y)) ∧ ∃ q os', w' = grow (W.drewN q) os' := by
  obtain ⟨a, b, c⟩ := x
  obtain ⟨d, s, t⟩ := y
  go_enter Try.func152, Try.ntmps152
  go_wp2_with (go_at_call 153; refine (cmpU_any _ _ _).mono ?_; rintro e w' ⟨rfl, rfl⟩)
  go_ret
  exact ⟨rfl, 0, #[_, _], by rw [alloc_eq_grow, alloc_eq_grow, grow_grow]; rfl⟩
theorem cmpLaysE (blk off size : Nat) (w : World) : CmpLays Try.prog 152 #[] encN 3 cmpE blk off size w :=
  fun _ _ _ _ x y => (List1_any x y _).mono fun _ _ ⟨he, hg⟩ => ⟨he, hg⟩
theorem RiseI.nodup {L : List EntI} (h : RiseI L) : L.Nodup := h.imp fun hab e => by rw [e] at hab; exact Int.lt_irrefl _ hab
theorem rise_ext {A B : List EntI} (hA : RiseI A) (hB : RiseI B) (h : ∀ e, e ∈ A ↔ e ∈ B) : A = B :=
  List.Perm.eq_of_pairwise (le := fun a b : EntI => a.1 < b.1) (fun a b _ _ h1 h2 => by omega) hA hB ((List.perm_ext_iff_of_nodup hA.nodup hB.nodup).2 h)
theorem sorted_is {ks L : List EntI} (hk : (ks.map (·.1)).Nodup) (hL : RiseI L) (hm : ∀ e, e ∈ L ↔ e ∈ ks) {d' : Array EntI} (hp : PermIn 0 ks.toArray.size ks.toArray d') (hs : SortedIn (ltOf cmpE) 0 ks.toArray.size d') : d' = L.toArray := by
  obtain ⟨hsz, _, hperm⟩ := hp
  have e1 : d'.extract 0 ks.toArray.size = d' := by rw [← hsz]; exact Array.extract_size
  rw [e1, Array.extract_size] at hperm
  have hperm2 : d'.toList.Perm ks := by simpa using hperm
  have hnd : (d'.toList.map (·.1)).Nodup := (hperm2.map _).nodup_iff.2 hk
  have hri : RiseI d'.toList := by
    rw [RiseI, List.pairwise_iff_getElem]
    intro i j hi hj hij
    have hi' : i < d'.size := by simpa using hi
    have hj' : j < d'.size := by simpa using hj
    have h1 := hs i j (Nat.zero_le _) hij (by rw [← hsz]; exact hj')
    rw [getElem!_pos d' i hi', getElem!_pos d' j hj'] at h1
    have h2 : ¬ d'[j].1 < d'[i].1 := fun e => by
      rw [(ltE_iff _ _).2 e] at h1
      cases h1
    have h3 : d'[i].1 ≠ d'[j].1 := by
      rw [List.nodup_iff_pairwise_ne, List.pairwise_map, List.pairwise_iff_getElem] at hnd
      have := hnd i j hi hj hij
      simpa using this
    show (d'.toList[i]).1 < (d'.toList[j]).1
    simp only [Array.getElem_toList]
    omega
  have := rise_ext hri hL fun e => (hperm2.mem_iff).trans (hm e).symm
  rw [← this]
theorem SortNamed_any (blk cap : Nat) {ks L : List EntI} (hk : (ks.map (·.1)).Nodup) (hL : RiseI L) (hm : ∀ e, e ∈ L ↔ e ∈ ks) (w : World) (hH : HoldsK encN 3 w blk 0 ks.toArray) (hblk : blk < w.heap.size) (hsz : ks.length < 4611686018427387904) :
    Calls Try.prog 151 #[.slice (some ⟨blk, 0, none⟩) ks.length cap, .func (.func 152) #[] #[]] w fun e w' =>
      e = .returned (.tuple #[]) ∧ ∃ n os, w' = sortWorldK encN 3 w blk 0 n L.toArray os := by
  have h := AnyQ.slices_SortFunc Try.sortNamed 3 Try.isAgg157 Try.sizeOf157 encN (fun _ => rfl) (fun x v hv => by simp [encN] at hv; rcases hv with rfl | rfl | rfl <;> rfl) cmpE swoE 152 #[] blk 0 cap ks.toArray w
    (enters_of Try.func152 (by kernel_rfl) rfl) (cmpLaysE blk 0 ks.toArray.size w) hH hblk (by simpa using hsz)
  have e : ks.toArray.size = ks.length := by simp
  rw [e] at h
  refine h.mono fun e w' ⟨he, d', n, os, hp, hs, hw⟩ => ⟨he, n, os, ?_⟩
  have hd := sorted_is (d' := d') hk hL hm hp hs
  rw [hw, hd]
theorem SortNamed_none (p : Option Addr) (cap : Nat) (fv : Value) (w : World) :
    Calls Try.prog 151 #[.slice p 0 cap, fv] w fun e w' => e = .returned (.tuple #[]) ∧ w' = w :=
  AnyF.slices_SortFunc_none { Try.sortNamed with } p cap fv w
theorem cellsN_snoc (l : List EntI) (e : EntI) : cellsN (l ++ [e]) = cellsN l ++ encN e := by simp [cellsN]
theorem cellsN_len (l : List EntI) : (cellsN l).length = l.length * 3 := by
  induction l with
  | nil => rfl
  | cons a t ih =>
    show (_ :: _ :: _ :: cellsN t).length = _
    simp only [List.length_cons, ih]
    omega
theorem cellsN_get : ∀ (zs : List EntI) (k c : Nat) (h : k < zs.length), c < 3 → (cellsN zs)[k * 3 + c]? = some ((encN zs[k])[c]!)
  | z :: r, 0, c, _, hc => by
    have e : cellsN (z :: r) = encN z ++ cellsN r := rfl
    rw [e, List.getElem?_append_left (by show 0 * 3 + c < 3; omega)]
    match c, hc with
    | 0, _ => rfl
    | 1, _ => rfl
    | 2, _ => rfl
  | z :: r, k + 1, c, h, hc => by
    have e : cellsN (z :: r) = encN z ++ cellsN r := rfl
    have hl : (encN z).length = 3 := rfl
    rw [e, List.getElem?_append_right (by rw [hl]; omega), hl, show (k + 1) * 3 + c - 3 = k * 3 + c by omega]
    exact cellsN_get r k c (by simpa using h) hc
theorem holdsN_own {w : World} {base g cap n : Nat} {zs : List EntI} (h : w.ownsRow base 157 3 (.slice (some ⟨g, 0, none⟩) n cap) n (cellsN zs)) (hn : zs.length = n) : HoldsK encN 3 w g 0 zs.toArray := by
  intro j hj
  have hsz : (flatK encN 3 zs.toArray).size = zs.length * 3 := by simp
  rw [hsz] at hj
  have hk : j / 3 < zs.length := by omega
  have hc : j % 3 < 3 := by omega
  have e : j = j / 3 * 3 + j % 3 := by omega
  have hx := cellsN_get zs (j / 3) (j % 3) hk hc
  rw [← e] at hx
  rcases h.2 with ⟨hv, _⟩ | ⟨g', cap', cur, hv, _, hb, _⟩
  · cases hv
  · injection hv with h1 h2 h3
    injection h1 with h1
    injection h1 with h1
    subst h1
    refine ⟨?_, ?_⟩
    · rw [Nat.zero_add, h.cellAt j (by omega), hx, get_flatK _ _ _ _ (by simpa using hj)]
      simp [hk]
    · simp [World.frozen?, hb]
theorem sortN_below {k B blk off n : Nat} {w : World} {d : Array EntI} {os : Array Obj} (hB : B ≤ blk) (hblk : blk < w.heap.size) : Below B w (sortWorldK encN k w blk off n d os) := by
  refine ⟨rfl, rfl, rfl, ?_, fun j hj => ?_⟩
  · show w.heap.size ≤ (w.heap.modify blk _ ++ os).size
    rw [Array.size_append, Array.size_modify]
    omega
  · show (w.heap.modify blk _ ++ os)[j]? = _
    rw [Array.getElem?_append_left (by rw [Array.size_modify]; omega), Array.getElem?_modify, if_neg (by omega)]
/-- Ids with their refs in memory, in blocks from B0 on. -/
def RdN (w : World) (B0 : Nat) (A : Option Addr) (L : List EntI) : Prop :=
  ∀ k e, L[k]? = some e → ∃ b, A = some ⟨b, 0, none⟩ ∧ B0 ≤ b ∧ b < w.heap.size ∧ w.cell? ⟨b, k * 3, none⟩ = some (.int .u64 e.1) ∧ w.cell? ⟨b, k * 3 + 1, none⟩ = some (.int .i64 e.2.1) ∧ w.cell? ⟨b, k * 3 + 2, none⟩ = some (.int .i64 e.2.2)
theorem RdN.below {w w' : World} {B0 : Nat} {A : Option Addr} {L : List EntI} (h : RdN w B0 A L) (hb : Below w.heap.size w w') : RdN w' B0 A L := fun k e hk => by
  obtain ⟨b, h1, h2, h3, c0, c1, c2⟩ := h k e hk
  exact ⟨b, h1, h2, Nat.lt_of_lt_of_le h3 hb.size, (hb.cell (p := ⟨b, k * 3, none⟩) h3).trans c0, (hb.cell (p := ⟨b, k * 3 + 1, none⟩) h3).trans c1, (hb.cell (p := ⟨b, k * 3 + 2, none⟩) h3).trans c2⟩

end Go.Proofs.Ytoaikdnooafjmaa
