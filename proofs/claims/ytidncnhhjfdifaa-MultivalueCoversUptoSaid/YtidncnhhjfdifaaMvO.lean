
/-
  The law MultivalueResolves, walked.
-/
import Derived.Test.YtidncnhhjfdifaaMvL
namespace Go.Proofs.Ytidncnhhjfdifaa
open Go.RowKit
set_option maxRecDepth 4000
theorem mL_small {a b : List Mv.V} {xs : List Mv.R} (h : Mv.vs xs = Mv.mL a b) : xs.length ≤ 16 := by
  rw [← Mv.vs_len, h]
  by_cases hz : Mv.mC a b = 0
  · exact (Mv.mL_val hz).len
  · unfold Mv.mL; rw [if_neg hz]; simp
theorem wL_small {a : List Mv.V} {r v : Int} {xs : List Mv.R} (h : Mv.vs xs = Mv.wL a r v) : xs.length ≤ 16 := by
  rw [← Mv.vs_len, h]
  unfold Mv.wL
  split <;> simp
set_option maxRecDepth 100000 in
set_option maxHeartbeats 2000000 in
theorem resolves_walk (pa : Option Addr) (ra : List Mv.R) (ca : Nat) (pb : Option Addr) (rb : List Mv.R) (cb : Nat) (r v : Int) (w : World) (hp : Vs w pa ra) (_ : pa = none → ca = 0) (hl : ra.length ≤ 4398046510976) (hlc : ra.length ≤ ca)
    (hq : Vs w pb rb) (_ : pb = none → cb = 0) (hl2 : rb.length ≤ 4398046510976) (hlc2 : rb.length ≤ cb) (_ : (Lit.int .i64 r).wf = true) (_ : (Lit.int .i64 v).wf = true) :
    Calls Try.prog 8 #[.slice pa ra.length ca, .slice pb rb.length cb, .int .i64 r, .int .i64 v] w (TPost w) := by
  have HP := Lib.hid hp
  have HQ := Lib.hid hq
  have HC := Lib.hid hlc
  have HC2 := Lib.hid hlc2
  have HL := Lib.hid (show ra.length ≤ 4611686018427387904 by omega)
  have HL2 := Lib.hid (show rb.length ≤ 4611686018427387904 by omega)
  have M1 := Lib.hid (mvMerge_any pa pb ra rb ca cb w hp hq hlc hlc2 HL.out HL2.out)
  have LAW := Lib.hid (fun h h2 => Mv.resolves (a := Mv.vs ra) (b := Mv.vs rb) (r := r) (v := v) h h2)
  have LV := Lib.hid (fun h => Mv.wL_val (l := Mv.mL (Mv.vs ra) (Mv.vs rb)) (r := r) (v := v) h)
  have MI := Lib.hid (fun h => Mv.mL_val (a := Mv.vs ra) (b := Mv.vs rb) h)
  clear hp hq hlc hlc2 hl hl2
  go_enter Try.func8, Try.ntmps8
  go_wp2_with fail
  refine M1.out.mono ?_
  rintro e w1 ⟨qx, xs, cx, rfl, hvs, hxs, -, hxc, hb1⟩
  generalize Mv.mC (Mv.vs ra) (Mv.vs rb) = c at LAW MI ⊢
  generalize Mv.mI (Mv.vs ra) (Mv.vs rb) = i
  have u1 := up_alloc (Below.refl w1.heap.size w1) (.cells #[.int .i64 c, .int .i64 i] 24 (0, 0))
  have F1 := Lib.hid (Flt.new w1 c i 24)
  have V1 := Lib.hid (hvs.mono u1)
  have B1 := Lib.hid (up_call hb1 u1)
  have XS := Lib.hid hxs
  have XC := Lib.hid hxc
  clear M1 hvs hxs hxc hb1 u1
  go_wp2_with fail
  have WR := Lib.hid (mvWrite_any qx xs cx r v _ V1.out XC.out (by have := mL_small XS.out; omega))
  rw [XS.out] at WR
  generalize Mv.wC (Mv.mL (Mv.vs ra) (Mv.vs rb)) r v = d at LAW LV WR
  generalize Mv.wI (Mv.mL (Mv.vs ra) (Mv.vs rb)) r v = j at WR
  generalize w1.alloc (.cells #[.int .i64 c, .int .i64 i] 24 (0, 0)) = W1 at F1 V1 B1 WR ⊢
  refine WR.out.mono ?_
  rintro e w2 ⟨qy, ys, cy, rfl, hvs, hys, -, hyc, hb2⟩
  have u2 := up_alloc (Below.refl w2.heap.size w2) (.cells #[.int .i64 d, .int .i64 j] 24 (0, 0))
  have F1b := Lib.hid ((F1.out.up hb2).up u2)
  have F2 := Lib.hid (Flt.new w2 d j 24)
  have V2 := Lib.hid (hvs.mono u2)
  have B2 := Lib.hid (up_call B1.out (up_call hb2 u2))
  have YS := Lib.hid hys
  have YC := Lib.hid hyc
  clear WR hvs hys hyc hb2 u2 F1 V1
  obtain ⟨a0, a1, -, -, -⟩ := F1b.out
  obtain ⟨b0, b1, -, -, -⟩ := F2.out
  by_cases hc : c = 0
  case neg =>
    have g0 : (c != 0) = true := by rw [bne_iff_ne]; exact hc
    clear hc
    go_wp2_with fail
    refine (first_any _).mono ?_
    rintro e w9 ⟨rfl, hb9⟩
    go_wp2_with fail
    go_returns
    exact ⟨rfl, up_call B2.out hb9⟩
  case pos =>
  have g0 : (c != 0) = false := by rw [hc]; rfl
  by_cases hd : d = 0
  case neg =>
    have g1 : (d != 0) = true := by rw [bne_iff_ne]; exact hd
    clear hd hc
    go_wp2_with fail
    refine (first_any _).mono ?_
    rintro e w9 ⟨rfl, hb9⟩
    go_wp2_with fail
    go_returns
    exact ⟨rfl, up_call B2.out hb9⟩
  case pos =>
  have g1 : (d != 0) = false := by rw [hd]; rfl
  obtain ⟨l1, l2, l3, l4⟩ := LAW.out hc hd
  have VL := Lib.hid (LV.out hd)
  have L1 := Lib.hid l1
  have L2 := Lib.hid l2
  have L3 := Lib.hid l3
  have L4 := Lib.hid l4
  clear hc hd l1 l2 l3 l4 LAW LV MI
  go_wp2_with fail
  generalize w2.alloc (.cells #[.int .i64 d, .int .i64 j] 24 (0, 0)) = W2 at F1b F2 V2 B2 a0 a1 b0 b1 ⊢
  have M3 := Lib.hid (mvMerge_any qy pa ys ra cy ca W2 V2.out (HP.out.mono B2.out) YC.out HC.out (by have := wL_small YS.out; omega) HL.out)
  rw [YS.out, L1.out, L3.out, Mv.mI_zero L1.out] at M3
  clear a0 a1 b0 b1 F1b F2
  refine M3.out.mono ?_
  rintro e w3 ⟨qu, us, cu, rfl, hvs, hus, -, -, hb3⟩
  have u3 := up_alloc (Below.refl w3.heap.size w3) (.cells #[.int .i64 0, .int .i64 0] 24 (0, 0))
  have F3 := Lib.hid (Flt.new w3 0 0 24)
  have VU := Lib.hid (hvs.mono u3)
  have V3 := Lib.hid (V2.out.mono (up_call hb3 u3))
  have B3 := Lib.hid (up_call B2.out (up_call hb3 u3))
  have US := Lib.hid hus
  clear M3 hvs hus hb3 u3 V2
  go_wp2_with fail
  generalize w3.alloc (.cells #[.int .i64 0, .int .i64 0] 24 (0, 0)) = W3 at F3 VU V3 B3 ⊢
  have M4 := Lib.hid (mvMerge_any pb qy rb ys cb cy W3 (HQ.out.mono B3.out) V3.out HC2.out YC.out HL2.out (by have := wL_small YS.out; omega))
  rw [YS.out, L2.out, L4.out, Mv.mI_zero L2.out] at M4
  refine M4.out.mono ?_
  rintro e w4 ⟨qv, zs, cv, rfl, hvs, hzs, -, -, hb4⟩
  have u4 := up_alloc (Below.refl w4.heap.size w4) (.cells #[.int .i64 0, .int .i64 0] 24 (0, 0))
  have u34 := up_call hb4 u4
  have F3b := Lib.hid (F3.out.up u34)
  have F4 := Lib.hid (Flt.new w4 0 0 24)
  have VZ := Lib.hid (hvs.mono u4)
  have VU4 := Lib.hid (VU.out.mono u34)
  have V4 := Lib.hid (V3.out.mono u34)
  have B4 := Lib.hid (up_call B3.out u34)
  have ZS := Lib.hid hzs
  clear M4 hvs hzs hb4 u4 u34 VU V3 F3
  obtain ⟨a0, a1, -, -, -⟩ := F3b.out
  obtain ⟨b0, b1, -, -, -⟩ := F4.out
  go_wp2_with fail
  generalize w4.alloc (.cells #[.int .i64 0, .int .i64 0] 24 (0, 0)) = W4 at F3b F4 VZ VU4 V4 B4 a0 a1 b0 b1 ⊢
  have E1 := Lib.hid (values_val qu qy us ys cu cy W4 VU4.out V4.out (US.out.trans YS.out.symm) (by rw [US.out]; exact VL.out))
  refine E1.out.mono ?_
  rintro e w5 ⟨rfl, n, rfl⟩
  have E2 := Lib.hid (values_val qv qy zs ys cv cy (W4.drewN n) (VZ.out.drewN n) (V4.out.drewN n) (ZS.out.trans YS.out.symm) (by rw [ZS.out]; exact VL.out))
  clear a0 a1 b0 b1
  go_wp2_with fail
  refine E2.out.mono ?_
  rintro e w6 ⟨rfl, m, rfl⟩
  have B6 := Lib.hid (below_drewN B4.out (n + m))
  go_wp2_with fail
  refine (first_any _).mono ?_
  rintro e w7 ⟨rfl, hb7⟩
  go_wp2_with fail
  go_returns
  exact ⟨rfl, up_call B6.out hb7⟩
end Go.Proofs.Ytidncnhhjfdifaa
