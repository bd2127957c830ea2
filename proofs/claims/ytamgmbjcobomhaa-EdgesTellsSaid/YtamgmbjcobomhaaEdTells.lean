/- Lists of neighbours as the document says (the law of 9.1 to 9.3), walked. -/
import Derived.Test.YtamgmbjcobomhaaEdLives
import Derived.Test.YtamgmbjcobomhaaEdRef
import Derived.Test.YtamgmbjcobomhaaEdRefFar
namespace Go.Proofs.Ytamgmbjcobomhaa
open Go.RowKit Go.Shelf

theorem refFar_is {V A I : Option Addr} {vs zs : List Int} {its : List ItT} {cv c ci : Nat} {d i s : Int} {b : Bool} {w : World} (hf : farS vs zs its = ((d, i), s)) (hb : decide (0 < zs.length) = b)
    (hV : VecB w w.heap.size V vs) (hA : Rd (Value.int .i64) w w.heap.size A zs) (hI : ItemsAt w w.heap.size I its) (hl : zs.length ≤ 100000 ∧ its.length ≤ 100000) (hzl : Hid (∀ z ∈ its, z.vec.length ≤ 9223372036854775807)) :
    Calls Try.prog 41 #[.slice V vs.length cv, .slice A zs.length c, .slice I its.length ci] w fun e w' => e = .returned (.tuple #[.agg #[.int .u64 d, .int .u64 i, .int .i64 s], .bool b]) ∧ Below w.heap.size w w' := by
  subst hb
  exact (refFar_any V vs cv A zs c I its ci w hV hA hI hl.1 hl.2 hV.len hzl).mono fun _ _ ⟨he, hb⟩ => ⟨by rw [he, hf]; rfl, hb⟩
theorem refMost_is {links level m : Int} (h : mostZ links level = m) (w : World) :
    Calls Try.prog 43 #[.int .i64 links, .int .i64 level] w fun e w' => e = .returned (.int .i64 m) ∧ w = w' := h ▸ refMost_any links level w
theorem refHas_is {A : Option Addr} {zs : List Int} {c : Nat} {x : Int} {b : Bool} {w : World} (h : hasI zs x = b) (hA : Rd (Value.int .i64) w w.heap.size A zs) (hl : zs.length ≤ 100000) :
    Calls Try.prog 45 #[.slice A zs.length c, .int .i64 x] w fun e w' => e = .returned (.bool b) ∧ w = w' := h ▸ refHas_any A zs c x w hA (by omega)
theorem refRight_is {A : Option Addr} {zs : List Int} {c : Nat} {self links level slots : Int} {b : Bool} {w : World} (h : rightB zs self links level slots = b) (hA : Rd (Value.int .i64) w w.heap.size A zs) (hl : zs.length ≤ 100000) (hc : zs.length ≤ c) :
    Calls Try.prog 52 #[.slice A zs.length c, .int .i64 self, .int .i64 links, .int .i64 level, .int .i64 slots] w fun e w' => e = .returned (.bool b) ∧ w = w' := h ▸ refRight_any A zs c self links level slots w hA hl hc

theorem with_len2 (zs : List Int) (n : Int) : (withI zs n).length ≤ zs.length + 1 := by
  unfold withI
  split <;> simp

/-- The law's two spots, in their boxes, in a world that has grown from w. -/
structure KT (w W : World) (S T : Nat) (d i s : Int) : Prop where
  hb : Below w.heap.size w W
  lt : S < W.heap.size
  lt2 : T < W.heap.size
  s0 : W.cell? ⟨S, 0, none⟩ = some (.int .u64 d)
  s1 : W.cell? ⟨S, 1, none⟩ = some (.int .u64 i)
  s2 : W.cell? ⟨S, 2, none⟩ = some (.int .i64 s)
  t0 : W.cell? ⟨T, 0, none⟩ = some (.int .u64 d)
  t1 : W.cell? ⟨T, 1, none⟩ = some (.int .u64 i)
  t2 : W.cell? ⟨T, 2, none⟩ = some (.int .i64 s)
theorem KT.grow {w W W' : World} {S T : Nat} {d i s : Int} (h : KT w W S T d i s) (hb : Below W.heap.size W W') : KT w W' S T d i s :=
  ⟨Below.next h.hb hb, Nat.lt_of_lt_of_le h.lt hb.size, Nat.lt_of_lt_of_le h.lt2 hb.size, (hb.cell (p := ⟨S, 0, none⟩) h.lt).trans h.s0, (hb.cell (p := ⟨S, 1, none⟩) h.lt).trans h.s1, (hb.cell (p := ⟨S, 2, none⟩) h.lt).trans h.s2,
    (hb.cell (p := ⟨T, 0, none⟩) h.lt2).trans h.t0, (hb.cell (p := ⟨T, 1, none⟩) h.lt2).trans h.t1, (hb.cell (p := ⟨T, 2, none⟩) h.lt2).trans h.t2⟩

set_option maxRecDepth 100000 in
set_option maxHeartbeats 8000000 in
theorem EdgesTells_walk (A : Option Addr) (zs : List Int) (c : Nat) (n links level slots : Int) (V : Option Addr) (vs : List Int) (cv : Nat) (I : Option Addr) (its : List ItT) (ci : Nat) (w : World)
    (hA : Rd (Value.int .i64) w w.heap.size A zs) (hl : zs.length ≤ 9223372036854775807) (hc : zs.length ≤ c) (hcA : A = none → c = 0) (hV : VecB w w.heap.size V vs) (hI : ItemsAt w w.heap.size I its) (hil : its.length ≤ 9223372036854775807) :
    Calls Try.prog 8 #[.slice A zs.length c, .int .i64 n, .int .i64 links, .int .i64 level, .int .i64 slots, .slice V vs.length cv, .slice I its.length ci] w fun e w' => e = .returned (.bool true) ∧ Below w.heap.size w w' := by
  by_cases hlong : 100 < zs.length
  · have hli : (100 : Int) < (zs.length : Int) := by omega
    clear hA hcA hV hI
    go_enter Try.func8, Try.ntmps8
    go_wp2_with fail
    refine (edges_lives_any _).mono ?_
    rintro e w1 ⟨rfl, hb⟩
    go_wp2
    go_ret
    exact ⟨rfl, hb⟩
  · have hli : ¬ (100 : Int) < (zs.length : Int) := by omega
    by_cases hlong2 : 100 < its.length
    · have hli2 : (100 : Int) < (its.length : Int) := by omega
      clear hA hcA hV hI
      go_enter Try.func8, Try.ntmps8
      go_wp2_with fail
      refine (edges_lives_any _).mono ?_
      rintro e w1 ⟨rfl, hb⟩
      go_wp2
      go_ret
      exact ⟨rfl, hb⟩
    · have hli2 : ¬ (100 : Int) < (its.length : Int) := by omega
      obtain ⟨⟨⟨d, i⟩, s⟩, hf⟩ : ∃ u, farS vs zs its = u := ⟨_, rfl⟩
      obtain ⟨b, hbb⟩ : ∃ b, decide (0 < zs.length) = b := ⟨_, rfl⟩
      have HF := Lib.hid hf
      have HBB := Lib.hid hbb
      have HC := Lib.hid hcA
      have HA := Lib.hid hA
      have HV := Lib.hid hV
      have HI := Lib.hid hI
      have HZ : Hid (∀ z ∈ its, z.vec.length ≤ 9223372036854775807) := Lib.hid fun z hz => by
        obtain ⟨k, hk, rfl⟩ := List.mem_iff_getElem.1 hz
        exact (hI k _ (List.getElem?_eq_getElem hk)).2.len
      have hls : zs.length ≤ 100000 ∧ its.length ≤ 100000 := ⟨by omega, by omega⟩
      have HLS := Lib.hid hls
      clear hf hbb hcA hA hV hI hls
      go_enter Try.func8, Try.ntmps8
      go_wp2_with fail
      refine Calls.mono (Far_is rfl rfl rfl HF.out HBB.out HV.out HA.out HI.out HLS.out) ?_
      rintro e w1 ⟨rfl, hb1⟩
      have HB1 := Lib.hid (hb1.alloc hb1.size (.cells #[.int .u64 d, .int .u64 i, .int .i64 s] 36))
      clear hb1
      go_wp2_with fail
      refine Calls.mono (refFar_is HF.out HBB.out ((HV.out.below HB1.out).more HB1.out.size) ((HA.out.below HB1.out).more HB1.out.size) ((HI.out.below HB1.out).more HB1.out.size) HLS.out HZ.out) ?_
      rintro e w2 ⟨rfl, hb2⟩
      have K1 : KT w (w2.alloc (.cells #[.int .u64 d, .int .u64 i, .int .i64 s] 36)) w1.heap.size w2.heap.size d i s :=
        have hx := hb2.size
        have hy : w1.heap.size < w2.heap.size := by simp at hx; omega
        have q := fun o => hb2.cell (p := ⟨w1.heap.size, o, none⟩) (by simp)
        ⟨(Below.next HB1.out hb2).alloc (Nat.le_trans HB1.out.size hb2.size) _, by simp; omega, by simp, (World.cell?_alloc_lt _ _ _ hy).trans ((q 0).trans (by go_cell)), (World.cell?_alloc_lt _ _ _ hy).trans ((q 1).trans (by go_cell)), (World.cell?_alloc_lt _ _ _ hy).trans ((q 2).trans (by go_cell)), by go_cell, by go_cell, by go_cell⟩
      have HK := Lib.hid K1
      clear K1 hb2 HB1 HV HI HZ
      generalize w1.heap.size = S at *
      go_wp2_with fail
      refine (edges_lives_any _).mono ?_
      rintro e w3 ⟨rfl, hb3⟩
      have K2 := HK.out.grow hb3
      clear HK hb3
      have HK := Lib.hid K2
      clear K2
      have HA3 := Lib.hid ((HA.out.below HK.out.hb).more HK.out.hb.size)
      generalize w2.heap.size = T at *
      obtain ⟨m, hm⟩ : ∃ m, mostZ links level = m := ⟨_, rfl⟩
      have HM := Lib.hid hm
      obtain ⟨t, ht⟩ : ∃ t, hasI zs n = t := ⟨_, rfl⟩
      have HT := Lib.hid ht
      obtain ⟨r, hr⟩ : ∃ r, rightB zs n links level slots = r := ⟨_, rfl⟩
      have HR := Lib.hid hr
      have hwl := with_len2 zs n
      clear hm ht hr
      go_wp2_with fail
      refine Calls.mono (Most_is HM.out _) ?_
      rintro e w' ⟨rfl, rfl⟩
      go_wp2_with fail
      refine Calls.mono (refMost_is HM.out _) ?_
      rintro e w' ⟨rfl, rfl⟩
      go_wp2_with fail
      refine Calls.mono (Has_is rfl HT.out HA3.out (by omega)) ?_
      rintro e w' ⟨rfl, rfl⟩
      go_wp2_with fail
      refine Calls.mono (refHas_is HT.out HA3.out (by omega)) ?_
      rintro e w' ⟨rfl, rfl⟩
      clear HM HT
      go_wp2_with fail
      refine (With_any A zs c n _ HA3.out (by omega) HC.out).mono ?_
      rintro e w4 ⟨A4, c4, rfl, hr4, _, _, _, hb4⟩
      have K2 := HK.out.grow hb4
      clear HK
      have HK := Lib.hid K2
      have HA4 := Lib.hid ((HA3.out.below hb4).more hb4.size)
      have HR4 := Lib.hid hr4
      clear K2 HA3 hb4 hr4
      go_wp2_with fail
      refine (refWith_any A zs c n _ HA4.out (by omega) HC.out).mono ?_
      rintro e w5 ⟨A5, c5, rfl, hr5, _, _, _, hb5⟩
      have K2 := HK.out.grow hb5
      clear HK
      have HK := Lib.hid K2
      have HA5 := Lib.hid ((HA4.out.below hb5).more hb5.size)
      have HR5 := Lib.hid hr5
      have HR6 := Lib.hid ((HR4.out.below hb5).more hb5.size)
      clear K2 HA4 hb5 hr5 HR4
      go_wp2_with fail
      refine Calls.mono (SameI_is rfl HR6.out HR5.out (by omega)) ?_
      rintro e w6 ⟨rfl, hb6⟩
      have K2 := HK.out.grow hb6
      clear HK
      have HK := Lib.hid K2
      have HA6 := Lib.hid ((HA5.out.below hb6).more hb6.size)
      clear K2 HA5 hb6 HR5 HR6
      have hll := withoutI_len zs n
      go_wp2_with fail
      refine (Without_any A zs c n _ HA6.out (by omega)).mono ?_
      rintro e w7 ⟨A7, c7, rfl, hr7, _, _, _, hb7⟩
      have K2 := HK.out.grow hb7
      clear HK
      have HK := Lib.hid K2
      have HA7 := Lib.hid ((HA6.out.below hb7).more hb7.size)
      have HR7 := Lib.hid hr7
      clear K2 HA6 hb7 hr7
      go_wp2_with fail
      refine (refWithout_any A zs c n _ HA7.out (by omega)).mono ?_
      rintro e w8 ⟨A8, c8, rfl, hr8, _, _, _, hb8⟩
      have K2 := HK.out.grow hb8
      clear HK
      have HK := Lib.hid K2
      have HA8 := Lib.hid ((HA7.out.below hb8).more hb8.size)
      have HR8 := Lib.hid hr8
      have HR9 := Lib.hid ((HR7.out.below hb8).more hb8.size)
      clear K2 HA7 hb8 hr8 HR7
      go_wp2_with fail
      refine Calls.mono (SameI_is rfl HR9.out HR8.out (by omega)) ?_
      rintro e w9 ⟨rfl, hb9⟩
      have K2 := HK.out.grow hb9
      clear HK
      have HK := Lib.hid K2
      have HA9 := Lib.hid ((HA8.out.below hb9).more hb9.size)
      clear K2 HA8 hb9 HR8 HR9
      go_wp2_with fail
      refine Calls.mono (Right_is rfl HR.out HA9.out (by omega) hc) ?_
      rintro e w' ⟨rfl, rfl⟩
      go_wp2_with fail
      refine Calls.mono (refRight_is HR.out HA9.out (by omega) hc) ?_
      rintro e w' ⟨rfl, rfl⟩
      clear HR
      obtain ⟨_, _, _, s0, s1, s2, t0, t1, t2⟩ := HK.out
      go_wp2_with fail
      refine (Pairs_any A zs c _ HA9.out (by omega)).mono ?_
      rintro e w10 ⟨A10, c10, rfl, hr10, hb10⟩
      have HB10 := Lib.hid (Below.next HK.out.hb hb10)
      have HA10 := Lib.hid ((HA9.out.below hb10).more hb10.size)
      have HR10 := Lib.hid hr10
      clear hb10 hr10 HA9 HK s0 s1 s2 t0 t1 t2
      go_wp2_with fail
      refine (refPairs_any A zs c _ HA10.out (by omega)).mono ?_
      rintro e w11 ⟨A11, c11, rfl, hr11, hb11⟩
      have HB11 := Lib.hid (Below.next HB10.out hb11)
      have HR11 := Lib.hid hr11
      have HR12 := Lib.hid ((HR10.out.below hb11).more hb11.size)
      clear hb11 hr11 HB10 HR10
      have hpl := pairs_len zs
      have hpl2 : (pairsI zs).length ≤ 100000 := by omega
      clear hpl
      go_wp2_with fail
      refine Calls.mono (SameP_is rfl HR12.out HR11.out hpl2) ?_
      rintro e w12 ⟨rfl, hb12⟩
      have HB12 := Lib.hid (Below.next HB11.out hb12)
      clear hb12 HB11 HR11 HR12
      go_wp2
      go_ret
      exact ⟨rfl, HB12.out⟩

end Go.Proofs.Ytamgmbjcobomhaa
