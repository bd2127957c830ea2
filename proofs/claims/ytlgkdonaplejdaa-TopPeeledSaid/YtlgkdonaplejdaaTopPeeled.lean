/- The last one of a node's neighbours, left out again and again (TopPeeled), walked. -/
import Derived.Test.YtlgkdonaplejdaaItemsOwn
import Derived.Test.YtlgkdonaplejdaaTopBegins5
import Derived.Test.YtlgkdonaplejdaaTopPeelP
import Derived.Test.YtlgkdonaplejdaaEdWithout
import Derived.Test.YtlgkdonaplejdaaChSplit
namespace Go.Proofs.Ytlgkdonaplejdaa
open Go.RowKit Go.Shelf Go.Sort Go.Lib

def upL (n : Nat) : List Int := (List.range n).map fun j : Nat => (j : Int) + 1
theorem upL_succ (n : Nat) : upL (n + 1) = upL n ++ [(n : Int) + 1] := by simp [upL, List.range_succ]
theorem upL_len (n : Nat) : (upL n).length = n := by simp [upL]
theorem upL_nodup (n : Nat) : (upL n).Nodup := by
  unfold upL List.Nodup
  rw [List.pairwise_map]
  exact List.nodup_range.imp (fun h e => h (by omega))
theorem upL_mem {n : Nat} {m : Int} (h : m ∈ upL n) : 1 ≤ m ∧ m ≤ n := by
  unfold upL at h
  simp only [List.mem_map, List.mem_range] at h
  obtain ⟨j, hj, rfl⟩ := h
  omega
/-- What holds after some rounds. -/
structure Peel (v : List Int) (its : List ItT) (l : List Int) (told : List SpotT) : Prop where
  nodup : l.Nodup
  mem : ∀ m ∈ l, 1 ≤ m ∧ m ≤ (its.length : Int)
  len : l.length + told.length = its.length
  ahead : 0 < told.length → ∀ m ∈ l, ltS (peelS v its m) (spAt told (told.length - 1)) = true
theorem Peel.next {v : List Int} {its : List ItT} {l : List Int} {told : List SpotT} (h : Peel v its l told) {m : Int} (hm : m ∈ l) (hx : ∀ m' ∈ l, m' ≠ m → ltS (peelS v its m') (peelS v its m) = true) : Peel v its (withoutI l m) (told ++ [peelS v its m]) := by
  have hl := without_len h.nodup hm
  unfold withoutI
  refine ⟨h.nodup.filter _, fun m' hm' => h.mem m' (List.mem_filter.1 hm').1, by rw [List.length_append]; simp only [List.length_cons, List.length_nil]; have := h.len; omega, ?_⟩
  intro _ m' hm'
  obtain ⟨h1, h2⟩ := List.mem_filter.1 hm'
  have e : spAt (told ++ [peelS v its m]) ((told ++ [peelS v its m]).length - 1) = peelS v its m := by simp [spAt]
  rw [e]
  exact hx m' h1 (by simpa using h2)

theorem grown_refl (W : World) : Grown W W := ⟨0, #[], by simp [grow, World.drewN]⟩
theorem has_grown (A : Option Addr) (zs : List Int) (c : Nat) (x : Int) (w : World) {B : Nat} (hA : Rd (Value.int .i64) w B A zs) (hl : zs.length ≤ 9223372036854775807) (hx : x ∈ zs) :
    Calls Try.prog 51 #[.slice A zs.length c, .int .i64 x] w fun e w' => e = .returned (.bool true) ∧ Grown w w' :=
  (Has_any A zs c x w hA hl).mono (fun e w' h => ⟨by rw [h.1, (hasI_iff zs x).2 hx], by rw [← h.2]; exact grown_refl w⟩)

theorem has_same (A : Option Addr) (zs : List Int) (c : Nat) (x : Int) (w : World) {B : Nat} (hA : Rd (Value.int .i64) w B A zs) (hl : zs.length ≤ 9223372036854775807) (hx : x ∈ zs) :
    Calls Try.prog 51 #[.slice A zs.length c, .int .i64 x] w fun e w' => e = .returned (.bool true) ∧ w' = w :=
  (Has_any A zs c x w hA hl).mono (fun e w' h => ⟨by rw [h.1, (hasI_iff zs x).2 hx], h.2.symm⟩)

set_option maxRecDepth 100000 in
set_option maxHeartbeats 3000000 in
theorem TopPeeled_walk (V : Option Addr) (v : List Int) (cv : Nat) (A : Option Addr) (its : List ItT) (ca : Nat) (w : World) (hV : VecB w w.heap.size V v) (hI : ItemsAt w w.heap.size A its) (_hil : its.length ≤ 9223372036854775807) :
    Calls Try.prog 12 #[.slice V v.length cv, .slice A its.length ca] w fun e w' => e = .returned (.bool true) ∧ Below w.heap.size w w' := by
  have mixed : Try.prog.follows .mixedOrders = true := by kernel_rfl
  by_cases hlong : 40 < its.length
  · have h1 : (40 : Int) < (its.length : Int) := by omega
    clear hlong hV hI
    go_enter Try.func12, Try.ntmps12
    go_wp2_with fail
    refine (begins5_any w).mono ?_
    rintro e w1 ⟨rfl, hb⟩
    go_wp2
    go_ret
    exact ⟨rfl, hb⟩
  · have l1 : ¬ (40 : Int) < (its.length : Int) := by omega
    have N : Hid (its.length ≤ 40) := by rw [Hid]; omega
    have HV := Lib.hid hV
    have HI := Lib.hid hI
    obtain ⟨i0, hi0, hz0, hz1, hz2⟩ := info_parts info_item
    obtain ⟨i1, hp0, hp1, hp2, hp3⟩ := info_parts info_spot
    obtain ⟨i2, hq0, hq1, hq2, hq3⟩ := info_parts info_int
    clear hlong hV hI
    go_enter Try.func12, Try.ntmps12
    go_wp2_with fail
    refine (begins5_any w).mono ?_
    rintro e w1 ⟨rfl, hb1⟩
    have HB1 := Lib.hid hb1
    clear hb1
    go_wp2
    go_loopw [20, 5] (fun i v5 wr => ∃ k : Nat, k ≤ its.length ∧ i = .int .i64 k ∧ wr.ownsRow w1.heap.size 3 1 v5 k ((upL k).map (Value.int .i64)) ∧ Below w1.heap.size w1 wr) (fun i _ _ => its.length - (intOf i).toNat)
    case atStart => exact ⟨0, Nat.zero_le _, rfl, World.ownsRow_nil _ _ _ _, Below.refl _ _⟩
    case round =>
      obtain ⟨k, hk, rfl, hown, hbel⟩ := hrel
      have hn40 := N.out
      have hsz := hbel.size
      by_cases hlt : k < its.length
      · have hkl : (k : Int) < (its.length : Int) := by omega
        have hk0 : (0 : Int) ≤ (k : Int) := by omega
        go_wp2_with (at_builtin; refine wpList_append_lies _ rfl _ _ 44 rfl w1.heap.size 3 i2 (.int .i64 0) 1 8 Try.underlying44 hq0 hq1 hq2 hq3 rfl (by decide) _ k ((upL k).map (Value.int .i64)) rfl (hown.alloc _) ⟨wr.heap.size, 0, none⟩ 1 1 [.int .i64 ((k : Int) + 1)] rfl rfl (World.news_of_block (cs := #[.int .i64 ((k : Int) + 1)]) (t := 3) (fr := (0, 0)) (heap_alloc_new wr _)) (by simp [Value.oneCell']) (by decide) (by unfold maxLen; omega) (by omega) (by simp; omega) (wr.heap.size + 1) (by simp) ?_; intro g cap W3 hown3 hgrow hat hlt3)
        have hb3 := ownBase (hown.alloc (.cells #[.int .i64 ((k : Int) + 1)] 3)) (hbel.alloc hbel.size (.cells #[.int .i64 ((k : Int) + 1)] 3)) (Nat.le_refl _) (by simp; omega) hgrow
        have hown4 : W3.ownsRow w1.heap.size 3 1 (.slice (some ⟨g, 0, none⟩) (k + 1) cap) (k + 1) ((upL (k + 1)).map (Value.int .i64)) := by rw [upL_succ, List.map_append]; exact hown3
        clear hgrow hat hlt3 hown hown3 hbel
        go_wp2
        go_roundw
        case rel => exact ⟨k + 1, by omega, by go_num, hown4, hb3⟩
        case measure => simp [intOf]; omega
      · obtain rfl : k = its.length := by omega
        obtain ⟨A5, c5, rfl, _, _⟩ := ownSlice hown
        have HR5 := Lib.hid (show wr.ownsRow w1.heap.size 3 1 (.slice A5 (upL its.length).length c5) (upL its.length).length ((upL its.length).map (Value.int .i64)) from by rw [upL_len]; exact hown)
        have HP0 := Lib.hid (show Peel v its (upL its.length) [] from ⟨upL_nodup _, fun m hm => upL_mem hm, by simp [upL_len], fun h => by simp at h⟩)
        have HB2 := Lib.hid (HB1.out.trans (hbel.mono HB1.out.size))
        have HL0 := Lib.hid (upL_len its.length)
        have HWA := Lib.hid hbel.size
        clear hown hbel HB1
        obtain ⟨WA, hWA⟩ : ∃ WA, WA = wr := ⟨_, rfl⟩
        subst hWA
        go_wp2
        go_loopw [31, 5, 7] (fun i v5 v7 wq => ∃ (r : Nat) (A5 : Option Addr) (c5 : Nat) (l : List Int) (told : List SpotT), r ≤ its.length ∧ i = .int .i64 r ∧ v5 = .slice A5 l.length c5 ∧ Hid (wq.ownsRow w1.heap.size 3 1 (.slice A5 l.length c5) l.length (l.map (Value.int .i64))) ∧ Hid (∀ k, (Value.slice A5 l.length c5).ownBlock = some k → v7.ownBlock ≠ some k) ∧ wq.ownsRow WA.heap.size 37 3 v7 r (cellsS told) ∧ Hid (told.length = r) ∧ Hid (Peel v its l told) ∧ Below WA.heap.size WA wq) (fun i _ _ _ => its.length - (intOf i).toNat)
        case atStart => exact ⟨0, A5, c5, upL its.length, [], Nat.zero_le _, rfl, by rw [HL0.out], HR5, Lib.hid (fun k _ e => by cases e), World.ownsRow_nil _ _ _ _, rfl, HP0, Below.refl _ _⟩
        case round =>
          clear HR5 HP0 HL0
          obtain ⟨r, A5, c5, l, told, hr, rfl, rfl, HL, HDJ, hown, HT, HP, hbel⟩ := hrel
          obtain ⟨WB, hWB⟩ : ∃ WB, WB = wr := ⟨_, rfl⟩
          subst hWB
          have HR := Lib.hid (Rd.of_own HL.out)
          have hn40 := N.out
          have hsum := HP.out.len
          rw [HT.out] at hsum
          by_cases hlt : r < its.length
          · have hl0 : 0 < l.length := by omega
            have hl40 : l.length ≤ 40 := by omega
            have HF := Lib.hid (far_last v its l HP.out.nodup hl0)
            have HB3 := Lib.hid (HB2.out.trans (hbel.mono HB2.out.size))
            have HV3 := Lib.hid ((HV.out.below HB3.out).more HB3.out.size)
            have HI3 := Lib.hid ((HI.out.below HB3.out).more HB3.out.size)
            have HO7 := Lib.hid hown
            have HW := Lib.hid hbel
            have hrl : (r : Int) < (its.length : Int) := by omega
            clear hown hbel
            go_wp2
            go_loopw [35, 8] (fun i v8 wq => ∃ k : Nat, k ≤ l.length ∧ i = .int .i64 k ∧ wq.ownsRow WB.heap.size 32 3 v8 k (cellsI ((restL its l).take k)) ∧ Below WB.heap.size WB wq) (fun i _ _ => l.length - (intOf i).toNat)
            case atStart => exact ⟨0, Nat.zero_le _, rfl, World.ownsRow_nil _ _ _ _, Below.refl _ _⟩
            case round =>
              obtain ⟨k, hk, rfl, hown8, hbel8⟩ := hrel
              have hsz8 := hbel8.size
              by_cases hlt8 : k < l.length
              · obtain ⟨b, off, rfl, hb, h0⟩ := (HR.out.below hbel8) k _ (List.getElem?_eq_getElem hlt8)
                obtain ⟨hm1, hm2⟩ := HP.out.mem l[k] (List.getElem_mem hlt8)
                have hTK : cellsI ((restL its l).take (k + 1)) = cellsI ((restL its l).take k) ++ encI (itAt its (l[k] - 1).toNat) := by
                  rw [List.take_succ_eq_append_getElem (by rw [restL_len]; exact hlt8), cellsI_snoc]
                  congr 1
                  simp [restL]
                obtain ⟨x, hx⟩ : ∃ x : Nat, l[k] = (x : Int) + 1 := ⟨(l[k] - 1).toNat, by omega⟩
                rw [hx] at hTK h0 hm1 hm2
                rw [show ((x : Int) + 1 - 1).toNat = x by omega] at hTK
                clear hx
                have hxlt : x < its.length := by omega
                obtain ⟨⟨bi, oi, rfl, hbi, y0, y1, y2⟩, -⟩ := (HI3.out.below hbel8) x _ (itAt_lt hxlt)
                generalize itAt its x = z at *
                obtain ⟨zi, zA, zv, zc, zt⟩ := z
                unfold encI at hTK
                simp only at y0 y1 y2 hTK
                have HTK := Lib.hid hTK
                have hkl : (k : Int) < (l.length : Int) := by omega
                have hk0 : (0 : Int) ≤ (k : Int) := by omega
                have hkn : ((k : Int)).toNat = k := Int.toNat_natCast k
                have hxl : (x : Int) < (its.length : Int) := by omega
                have hx0 : (0 : Int) ≤ (x : Int) := by omega
                have hxn : ((x : Int)).toNat = x := Int.toNat_natCast x
                have hxa : ¬ ((x : Int) + 1 < 1) := by omega
                have hxb : ¬ ((its.length : Int) < (x : Int) + 1) := by omega
                have hxc : (x : Int) + 1 - 1 = x := by omega
                have hx41 : (x : Int) ≤ 40 := by omega
                clear hTK hsum hr hlt hl0 hk hlt8 hm1 hm2
                go_wp2_with (at_builtin; refine wpList_append_lies _ rfl _ _ 23 rfl WB.heap.size 32 i0 _ 3 40 Try.underlying23 hi0 hz0 hz1 hz2 rfl (by decide) _ k (cellsI ((restL its l).take k)) rfl (hown8.alloc _) ⟨wr.heap.size, 0, none⟩ 1 1 [.int .u64 zi, .slice zA zv.length zc, .int .u64 zt] rfl rfl (World.news_of_block (cs := #[.int .u64 zi, .slice zA zv.length zc, .int .u64 zt]) (t := 32) (fr := (0, 0)) (heap_alloc_new wr _)) (by simp [Value.oneCell']) (by decide) (by unfold maxLen; omega) (by omega) (by simp; omega) (wr.heap.size + 1) (by simp) ?_; intro g cap W5 hown5 hgrow hat hlt5)
                have hb5 := ownBase (hown8.alloc (.cells #[.int .u64 zi, .slice zA zv.length zc, .int .u64 zt] 32)) (hbel8.alloc hsz8 (.cells #[.int .u64 zi, .slice zA zv.length zc, .int .u64 zt] 32)) (Nat.le_refl _) (by simp; omega) hgrow
                rw [← HTK.out] at hown5
                have HO5 := Lib.hid hown5
                have HB5 := Lib.hid hb5
                clear hown5 hgrow hat hlt5 hb5 hown8 hbel8 h0 y0 y1 y2
                go_wp2
                go_roundw
                case rel => exact ⟨k + 1, by omega, by go_num, HO5.out, HB5.out⟩
                case measure => simp [intOf]; omega
              · obtain rfl : k = l.length := by omega
                rw [List.take_of_length_le (by rw [restL_len]; exact Nat.le_refl _)] at hown8
                obtain ⟨A8, c8, rfl, _, _⟩ := ownSlice hown8
                have HAG := Lib.hid (items_own hown8 (restL_len its l) (fun z hz => by
                  unfold restL at hz
                  obtain ⟨m, _, rfl⟩ := List.mem_map.1 hz
                  exact ((itAt_vec HI3.out _).below hbel8).more hsz8))
                have HR8 := Lib.hid ((HR.out.below hbel8).more hsz8)
                have HFAR := Lib.hid (Far_any V v cv A5 l c5 A8 (restL its l) c8 wr ((HV3.out.below hbel8).more hsz8) HR8.out HAG.out (by omega) (by rw [restL_len]; omega))
                rw [restL_len] at HFAR
                have HL8 := Lib.hid (own_below HL.out hbel8)
                have HO8 := Lib.hid (own_below HO7.out hbel8)
                have HB8 := Lib.hid (HW.out.trans (hbel8.mono HW.out.size))
                obtain ⟨m, hm, hfm, hah⟩ := HF.out
                have HM := Lib.hid hm
                have HFM := Lib.hid hfm
                have HN := Lib.hid (HP.out.next hm hah)
                have HLT := Lib.hid (fun h : 0 < told.length => HP.out.ahead h m hm)
                have hs2 : (peelS v its m).2 = m := rfl
                clear hm hfm hah hown8 hbel8 hsz8 HAG HF HR HO7 HW HV3 HI3 HL
                go_wp2_with fail
                refine Calls.mono HFAR.out ?_
                rintro e w7 ⟨rfl, hb7⟩
                rw [HFM.out, decide_eq_true hl0]
                have HR9 := Lib.hid ((HR8.out.below hb7).more hb7.size)
                have HL9 := Lib.hid (own_below HL8.out hb7)
                have HO9 := Lib.hid (own_below HO8.out hb7)
                have HB9 := Lib.hid (HB8.out.trans (hb7.mono HB8.out.size))
                clear hb7 HFAR HFM HR8 HO8 HB8 HL8
                generalize peelS v its m = s at *
                obtain ⟨⟨sa, sb⟩, sc⟩ := s
                simp only at hs2
                subst hs2
                have HXC := Lib.hid (show Below w7.heap.size w7 (w7.alloc (.cells #[.int .u64 sa, .int .u64 sb, .int .i64 sc] 37)) from below_new3 w7 _)
                have d0 : (w7.alloc (.cells #[.int .u64 sa, .int .u64 sb, .int .i64 sc] 37)).cell? ⟨w7.heap.size, 0, none⟩ = some (.int .u64 sa) := by go_cell
                have d1 : (w7.alloc (.cells #[.int .u64 sa, .int .u64 sb, .int .i64 sc] 37)).cell? ⟨w7.heap.size, 1, none⟩ = some (.int .u64 sb) := by go_cell
                have d2 : (w7.alloc (.cells #[.int .u64 sa, .int .u64 sb, .int .i64 sc] 37)).cell? ⟨w7.heap.size, 2, none⟩ = some (.int .i64 sc) := by go_cell
                have hdX : w7.heap.size < (w7.alloc (.cells #[.int .u64 sa, .int .u64 sb, .int .i64 sc] 37)).heap.size := by simp
                have HLTD := Lib.hid (fun k e => (HO9.out.lt k e).2)
                have HDX := Lib.hid HB9.out.size
                unfold sptV
                go_upto_region 23 with (fail)
                generalize w7.alloc (.cells #[.int .u64 sa, .int .u64 sb, .int .i64 sc] 37) = X at *
                have HRX := Lib.hid ((HR9.out.below HXC.out).more HXC.out.size)
                have HLX := Lib.hid (own_below HL9.out HXC.out)
                have HOX := Lib.hid (own_below HO9.out HXC.out)
                have HBX := Lib.hid (HB9.out.trans (HXC.out.mono HB9.out.size))
                generalize w7.heap.size = D at *
                clear HXC HR9 HO9 HB9 HL9
                have gR := fun n os => HRX.out.below (show Below X.heap.size X (grow (X.drewN n) os) from Grown.below ⟨n, os, rfl⟩)
                have g0 := fun n os => cell_grown (n := n) (os := os) (a := ⟨D, 0, none⟩) hdX d0
                have g1 := fun n os => cell_grown (n := n) (os := os) (a := ⟨D, 1, none⟩) hdX d1
                have g2 := fun n os => cell_grown (n := n) (os := os) (a := ⟨D, 2, none⟩) hdX d2
                have hlbig : l.length ≤ 9223372036854775807 := by omega
                by_cases ht : 0 < r
                · obtain ⟨q, rfl⟩ : ∃ q, r = q + 1 := ⟨r - 1, by omega⟩
                  have hq41 : q ≤ 40 := by omega
                  have hq42 : (q : Int) ≤ 40 := by omega
                  have hq43 : (0 : Int) ≤ (q : Int) := by omega
                  have hq44 : ((q + 1 : Nat) : Int) - 1 = (q : Int) := by omega
                  have hq5 : (q : Int) < (q : Int) + 1 := by omega
                  have hq6 : (q : Int) < ((q + 1 : Nat) : Int) := by omega
                  have hq7 : q < q + 1 := by omega
                  have hq8 : ((q : Int)).toNat = q := Int.toNat_natCast q
                  have hqw : IntKind.i64.wrap (q : Int) = (q : Int) := by rw [IntKind.wrap_i64]; omega
                  have hlt5 := HLT.out (by have := HT.out; omega)
                  obtain ⟨A7, c7, rfl, _, _⟩ := ownSlice HOX.out
                  have hrd := rdS_own (M := told) (c := c7) (by rw [HT.out]; exact HOX.out)
                  obtain ⟨bt, ot, rfl, hbt, y0, y1, y2⟩ := hrd q _ (spAt_lt (show q < told.length by have := HT.out; omega))
                  rw [HT.out, Nat.add_sub_cancel] at hlt5
                  generalize spAt told q = y at *
                  obtain ⟨⟨ya, yb⟩, yc⟩ := y
                  simp only at y0 y1 y2
                  have g3 := fun n os => cell_grown (n := n) (os := os) (a := ⟨bt, ot + q * 3, none⟩) hbt y0
                  have g4 := fun n os => cell_grown (n := n) (os := os) (a := ⟨bt, ot + q * 3 + 1, none⟩) hbt y1
                  have g5 := fun n os => cell_grown (n := n) (os := os) (a := ⟨bt, ot + q * 3 + 2, none⟩) hbt y2
                  clear hrd y0 y1 y2
                  go_quiet_grown ((first | (go_at_call 23; exact Calls.grown_of (Spot_any ((_, _), _) ((_, _), _) _)) | (go_at_call 51; exact Calls.grown_of (has_grown _ _ _ _ _ (gR _ _) hlbig HM.out))))
                  clear g3 g4 g5 gR
                  have HBY := Lib.hid (HBX.out.trans ((show Grown X (grow (X.drewN nq) osq) from ⟨nq, osq, rfl⟩).below.mono HBX.out.size))
                  have HGY := Lib.hid ((show Grown X (grow (X.drewN nq) osq) from ⟨nq, osq, rfl⟩).below)
                  have e0 := g0 nq osq
                  have e1 := g1 nq osq
                  have e2 := g2 nq osq
                  have HOY := Lib.hid (own_below HOX.out HGY.out)
                  have HLY := Lib.hid (own_below HLX.out HGY.out)
                  have hdY := Nat.lt_of_lt_of_le hdX HGY.out.size
                  generalize grow (X.drewN nq) osq = Y at *
                  clear g0 g1 g2 HOX HRX HLX HBX HGY hdX d0 d1 d2
                  have hszY := HBY.out.size
                  go_upto_region 26 with (at_builtin; refine wpList_append_lies _ rfl _ _ 22 rfl WA.heap.size 37 i1 _ 3 24 Try.underlying22 hp0 hp1 hp2 hp3 rfl (by decide) _ (q + 1) (cellsS told) rfl (HOY.out.alloc _) ⟨Y.heap.size, 0, none⟩ 1 1 [.int .u64 sa, .int .u64 sb, .int .i64 sc] rfl rfl (World.news_of_block (cs := #[.int .u64 sa, .int .u64 sb, .int .i64 sc]) (t := 37) (fr := (0, 0)) (heap_alloc_new Y _)) (by simp [Value.oneCell']) (by decide) (by unfold maxLen; omega) (by omega) (by simp; omega) (Y.heap.size + 1) (by simp) ?_; intro g cap W9 hown9 hgrow hat hlt9)
                  have hb9 := ownBase (HOY.out.alloc (.cells #[.int .u64 sa, .int .u64 sb, .int .i64 sc] 37)) (HBY.out.alloc hszY (.cells #[.int .u64 sa, .int .u64 sb, .int .i64 sc] 37)) (Nat.le_refl _) (by simp; omega) hgrow
                  have f2 : W9.cell? ⟨D, 2, none⟩ = some (.int .i64 sc) := hgrow.cell (((below_new3 Y (.cells #[.int .u64 sa, .int .u64 sb, .int .i64 sc] 37)).cell (p := ⟨D, 2, none⟩) hdY).trans e2) (fun e => absurd (HLTD.out D e.symm) (Nat.lt_irrefl _))
                  have HLN := Lib.hid (own_other (HLY.out.alloc (.cells #[.int .u64 sa, .int .u64 sb, .int .i64 sc] 37)) hgrow (fun k e => HDJ.out k e))
                  have HON := Lib.hid (show W9.ownsRow WA.heap.size 37 3 (.slice (some ⟨g, 0, none⟩) ((q + 1) + 1) cap) ((q + 1) + 1) (cellsS (told ++ [((sa, sb), sc)])) from by rw [cellsS_snoc]; exact hown9)
                  have HBN := Lib.hid hb9
                  have HWO := Lib.hid (Without_any A5 l c5 sc W9 (Rd.of_own HLN.out) (by omega))
                  clear hown9 hgrow hat hlt9 hb9 HOY HLY HBY e0 e1 e2 hdY
                  go_wp2_with fail
                  refine Calls.mono HWO.out ?_
                  rintro e wz ⟨A10, c10, rfl, ho10, hb10⟩
                  have HLZ := Lib.hid ho10
                  have HDZ : Hid (∀ k, (Value.slice A10 (withoutI l sc).length c10).ownBlock = some k → (Value.slice (some ⟨g, 0, none⟩) ((q + 1) + 1) cap).ownBlock ≠ some k) := Lib.hid (fun k e e2 => absurd ((HLZ.out.lt k e).1) (Nat.not_le.2 (HON.out.lt k e2).2))
                  have HOZ := Lib.hid (own_below HON.out hb10)
                  have HBZ := Lib.hid (HBN.out.trans (hb10.mono HBN.out.size))
                  have HTZ : Hid ((told ++ [((sa, sb), sc)]).length = (q + 1) + 1) := by rw [Hid, List.length_append, HT.out]; rfl
                  have HW1 := Lib.hid (own_mono HLZ.out (show w1.heap.size ≤ W9.heap.size from Nat.le_trans HWA.out HBN.out.size))
                  clear ho10 hb10 HWO f2
                  go_wp2
                  go_roundw
                  case rel => exact ⟨(q + 1) + 1, A10, c10, withoutI l sc, told ++ [((sa, sb), sc)], by omega, by go_num, rfl, HW1, HDZ, HOZ.out, HTZ, HN, HBZ.out⟩
                  case measure => simp [intOf]; omega
                · have hrp : decide ((0 : Int) < (r : Int)) = false := by simp; omega
                  have hr00 : (0 < r) = False := by simp; omega
                  obtain ⟨A7, c7, rfl, _, _⟩ := ownSlice HOX.out
                  have gR2 := fun n => HRX.out.below (below_draws X n X.heap.size)
                  clear g0 g1 g2 gR
                  go_quiet ((go_at_call 51; exact Calls.quiet_of_same (has_same _ _ _ _ _ (gR2 _) hlbig HM.out)))
                  clear gR2
                  have HBY := Lib.hid (HBX.out.trans ((below_draws X nq X.heap.size).mono HBX.out.size))
                  have HGY := Lib.hid (below_draws X nq X.heap.size)
                  have e0 := d0
                  have e1 := d1
                  have e2 := d2
                  rw [← World.cell?_drewN X nq] at e0 e1 e2
                  have HOY := Lib.hid (own_below HOX.out HGY.out)
                  have HLY := Lib.hid (own_below HLX.out HGY.out)
                  have hdY := Nat.lt_of_lt_of_le hdX HGY.out.size
                  generalize X.drewN nq = Y at *
                  clear HOX HRX HLX HBX HGY hdX d0 d1 d2
                  have hszY := HBY.out.size
                  go_upto_region 26 with (at_builtin; refine wpList_append_lies _ rfl _ _ 22 rfl WA.heap.size 37 i1 _ 3 24 Try.underlying22 hp0 hp1 hp2 hp3 rfl (by decide) _ (r) (cellsS told) rfl (HOY.out.alloc _) ⟨Y.heap.size, 0, none⟩ 1 1 [.int .u64 sa, .int .u64 sb, .int .i64 sc] rfl rfl (World.news_of_block (cs := #[.int .u64 sa, .int .u64 sb, .int .i64 sc]) (t := 37) (fr := (0, 0)) (heap_alloc_new Y _)) (by simp [Value.oneCell']) (by decide) (by unfold maxLen; omega) (by omega) (by simp; omega) (Y.heap.size + 1) (by simp) ?_; intro g cap W9 hown9 hgrow hat hlt9)
                  have hb9 := ownBase (HOY.out.alloc (.cells #[.int .u64 sa, .int .u64 sb, .int .i64 sc] 37)) (HBY.out.alloc hszY (.cells #[.int .u64 sa, .int .u64 sb, .int .i64 sc] 37)) (Nat.le_refl _) (by simp; omega) hgrow
                  have f2 : W9.cell? ⟨D, 2, none⟩ = some (.int .i64 sc) := hgrow.cell (((below_new3 Y (.cells #[.int .u64 sa, .int .u64 sb, .int .i64 sc] 37)).cell (p := ⟨D, 2, none⟩) hdY).trans e2) (fun e => absurd (HLTD.out D e.symm) (Nat.lt_irrefl _))
                  have HLN := Lib.hid (own_other (HLY.out.alloc (.cells #[.int .u64 sa, .int .u64 sb, .int .i64 sc] 37)) hgrow (fun k e => HDJ.out k e))
                  have HON := Lib.hid (show W9.ownsRow WA.heap.size 37 3 (.slice (some ⟨g, 0, none⟩) (r + 1) cap) (r + 1) (cellsS (told ++ [((sa, sb), sc)])) from by rw [cellsS_snoc]; exact hown9)
                  have HBN := Lib.hid hb9
                  have HWO := Lib.hid (Without_any A5 l c5 sc W9 (Rd.of_own HLN.out) (by omega))
                  clear hown9 hgrow hat hlt9 hb9 HOY HLY HBY e0 e1 e2 hdY
                  go_wp2_with fail
                  refine Calls.mono HWO.out ?_
                  rintro e wz ⟨A10, c10, rfl, ho10, hb10⟩
                  have HLZ := Lib.hid ho10
                  have HDZ : Hid (∀ k, (Value.slice A10 (withoutI l sc).length c10).ownBlock = some k → (Value.slice (some ⟨g, 0, none⟩) (r + 1) cap).ownBlock ≠ some k) := Lib.hid (fun k e e2 => absurd ((HLZ.out.lt k e).1) (Nat.not_le.2 (HON.out.lt k e2).2))
                  have HOZ := Lib.hid (own_below HON.out hb10)
                  have HBZ := Lib.hid (HBN.out.trans (hb10.mono HBN.out.size))
                  have HTZ : Hid ((told ++ [((sa, sb), sc)]).length = r + 1) := by rw [Hid, List.length_append, HT.out]; rfl
                  have HW1 := Lib.hid (own_mono HLZ.out (show w1.heap.size ≤ W9.heap.size from Nat.le_trans HWA.out HBN.out.size))
                  clear ho10 hb10 HWO f2
                  go_wp2
                  go_roundw
                  case rel => exact ⟨r + 1, A10, c10, withoutI l sc, told ++ [((sa, sb), sc)], by omega, by go_num, rfl, HW1, HDZ, HOZ.out, HTZ, HN, HBZ.out⟩
                  case measure => simp [intOf]; omega
          · obtain rfl : r = its.length := by omega
            have hz : l.length = 0 := by omega
            obtain ⟨A7, c7, rfl, _, _⟩ := ownSlice hown
            have HB3 := Lib.hid (HB2.out.trans (hbel.mono HB2.out.size))
            clear hown hbel HB2 HR HP HL HDJ
            rw [hz]
            go_wp2
            go_ret
            exact ⟨rfl, HB3.out⟩

end Go.Proofs.Ytlgkdonaplejdaa
