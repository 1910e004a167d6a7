
/-
  The law MultivalueSemilattice, walked.
-/
import Derived.Test.YtidncnhhjfdifaaMvO
namespace Go.Proofs.Ytidncnhhjfdifaa
open Go.RowKit
set_option maxRecDepth 4000
set_option maxRecDepth 100000 in
set_option maxHeartbeats 4000000 in
theorem semilattice_walk (pa : Option Addr) (ra : List Mv.R) (ca : Nat) (pb : Option Addr) (rb : List Mv.R) (cb : Nat) (pc : Option Addr) (rc : List Mv.R) (cc : Nat) (w : World) (hp : Vs w pa ra) (_ : pa = none → ca = 0) (hl : ra.length ≤ 4398046510976) (hlc : ra.length ≤ ca)
    (hq : Vs w pb rb) (_ : pb = none → cb = 0) (hl2 : rb.length ≤ 4398046510976) (hlc2 : rb.length ≤ cb) (hr : Vs w pc rc) (_ : pc = none → cc = 0) (hl3 : rc.length ≤ 4398046510976) (hlc3 : rc.length ≤ cc) :
    Calls Try.prog 4 #[.slice pa ra.length ca, .slice pb rb.length cb, .slice pc rc.length cc] w (TPost w) := by
  have HP := Lib.hid hp
  have HQ := Lib.hid hq
  have HR := Lib.hid hr
  have HC := Lib.hid hlc
  have HC2 := Lib.hid hlc2
  have HC3 := Lib.hid hlc3
  have HL := Lib.hid (show ra.length ≤ 4611686018427387904 by omega)
  have HL2 := Lib.hid (show rb.length ≤ 4611686018427387904 by omega)
  have HL3 := Lib.hid (show rc.length ≤ 4611686018427387904 by omega)
  have B0 := Lib.hid (Below.refl w.heap.size w)
  have M1 := Lib.hid (mvMerge_any pa pb ra rb ca cb w hp hq hlc hlc2 HL.out HL2.out)
  have LC := Lib.hid (Mv.m_comm (Mv.vs ra) (Mv.vs rb))
  have LL := Lib.hid (fun h => Mv.l_comm (a := Mv.vs ra) (b := Mv.vs rb) h)
  have LV := Lib.hid (fun h => Mv.mL_val (a := Mv.vs ra) (b := Mv.vs rb) h)
  have LA := Lib.hid (fun h1 h2 h3 h4 => Mv.m_assoc (a := Mv.vs ra) (b := Mv.vs rb) (c := Mv.vs rc) h1 h2 h3 h4)
  clear hp hq hr hlc hlc2 hlc3 hl hl2 hl3
  go_enter Try.func4, Try.ntmps4
  go_wp2_with fail
  refine M1.out.mono ?_
  rintro e w1 ⟨qx, xs, cx, rfl, hvs, hqs, -, hqc, hb⟩
  generalize Mv.mC (Mv.vs ra) (Mv.vs rb) = f at LC LL LV LA ⊢
  generalize Mv.mI (Mv.vs ra) (Mv.vs rb) = i0
  have u := up_alloc (Below.refl w1.heap.size w1) (.cells #[.int .i64 f, .int .i64 i0] 24 (0, 0))
  have uu := up_call hb u
  have Fxs_1 := Lib.hid (Flt.new w1 f i0 24)
  have Vxs_1 := Lib.hid (hvs.mono u)
  have B1 := Lib.hid (up_call B0.out uu)
  have Sxs := Lib.hid hqs
  have Cxs := Lib.hid hqc
  clear M1 hvs hqs hqc hb u uu 
  go_wp2_with fail
  generalize w1.alloc (.cells #[.int .i64 f, .int .i64 i0] 24 (0, 0)) = W1 at Fxs_1 Vxs_1 B1  ⊢
  have M2 := Lib.hid (mvMerge_any pb pa rb ra cb ca W1 (HQ.out.mono B1.out) (HP.out.mono B1.out) HC2.out HC.out HL2.out HL.out)
  refine M2.out.mono ?_
  rintro e w2 ⟨qy, ys, cy, rfl, hvs, hqs, -, hqc, hb⟩
  generalize Mv.mC (Mv.vs rb) (Mv.vs ra) = g at LC ⊢
  generalize Mv.mI (Mv.vs rb) (Mv.vs ra) = i1
  have u := up_alloc (Below.refl w2.heap.size w2) (.cells #[.int .i64 g, .int .i64 i1] 24 (0, 0))
  have uu := up_call hb u
  have Fxs_2 := Lib.hid (Fxs_1.out.up uu)
  have Vxs_2 := Lib.hid (Vxs_1.out.mono uu)
  have Fys_2 := Lib.hid (Flt.new w2 g i1 24)
  have Vys_2 := Lib.hid (hvs.mono u)
  have B2 := Lib.hid (up_call B1.out uu)
  have Sys := Lib.hid hqs
  have Cys := Lib.hid hqc
  clear M2 hvs hqs hqc hb u uu Fxs_1 Vxs_1
  obtain ⟨a0_0, a0_1, -, -, -⟩ := Fxs_2.out
  obtain ⟨a1_0, a1_1, -, -, -⟩ := Fys_2.out
  by_cases hf : f = 0
  case neg =>
    have hg : g ≠ 0 := fun h => hf (LC.out.2 h)
    have g0 : (f != 0) = true := by rw [bne_iff_ne]; exact hf
    have g1 : (f == 0) = false := by rw [beq_eq_false_iff_ne]; exact hf
    have g2 : (g == 0) = false := by rw [beq_eq_false_iff_ne]; exact hg
    clear hf hg
    go_wp2_with fail
    refine (first_any _).mono ?_
    rintro e w9 ⟨rfl, hb9⟩
    go_wp2_with fail
    go_returns
    exact ⟨rfl, up_call B2.out hb9⟩
  case pos =>
  have hg : g = 0 := LC.out.1 hf
  have g0 : (f != 0) = false := by rw [hf]; rfl
  have g1 : (g != 0) = false := by rw [hg]; rfl
  have L1 := Lib.hid (LL.out hf)
  have VL := Lib.hid (LV.out hf)
  have L3 := Lib.hid (LA.out hf)
  have LS := Lib.hid (Mv.m_self VL.out)
  clear hf hg LC LL LV LA
  go_wp2_with fail
  generalize w2.alloc (.cells #[.int .i64 g, .int .i64 i1] 24 (0, 0)) = W2 at Fxs_2 Fys_2 Vxs_2 Vys_2 B2 a0_0 a0_1 a1_0 a1_1 ⊢
  clear a0_0 a0_1 a1_0 a1_1 Fxs_2 Fys_2
  have M3 := Lib.hid (mvMerge_any qx qx xs xs cx cx W2 Vxs_2.out Vxs_2.out Cxs.out Cxs.out (by have := mL_small Sxs.out; omega) (by have := mL_small Sxs.out; omega))
  rw [Sxs.out, LS.out.1, LS.out.2, Mv.mI_zero LS.out.1] at M3
  refine M3.out.mono ?_
  rintro e w3 ⟨qz, zs, cz, rfl, hvs, hqs, -, hqc, hb⟩
  have u := up_alloc (Below.refl w3.heap.size w3) (.cells #[.int .i64 0, .int .i64 0] 24 (0, 0))
  have uu := up_call hb u
  have Vxs_3 := Lib.hid (Vxs_2.out.mono uu)
  have Vys_3 := Lib.hid (Vys_2.out.mono uu)
  have Fzs_3 := Lib.hid (Flt.new w3 0 0 24)
  have Vzs_3 := Lib.hid (hvs.mono u)
  have B3 := Lib.hid (up_call B2.out uu)
  have Szs := Lib.hid hqs
  have Czs := Lib.hid hqc
  clear M3 hvs hqs hqc hb u uu Vxs_2 Vys_2
  go_wp2_with fail
  generalize w3.alloc (.cells #[.int .i64 0, .int .i64 0] 24 (0, 0)) = W3 at Fzs_3 Vxs_3 Vys_3 Vzs_3 B3  ⊢
  have M4 := Lib.hid (mvMerge_any qx pc xs rc cx cc W3 Vxs_3.out (HR.out.mono B3.out) Cxs.out HC3.out (by have := mL_small Sxs.out; omega) HL3.out)
  rw [Sxs.out] at M4
  refine M4.out.mono ?_
  rintro e w4 ⟨qu, us, cu, rfl, hvs, hqs, -, hqc, hb⟩
  generalize Mv.mC (Mv.mL (Mv.vs ra) (Mv.vs rb)) (Mv.vs rc) = i at L3 ⊢
  generalize Mv.mI (Mv.mL (Mv.vs ra) (Mv.vs rb)) (Mv.vs rc) = i4
  have u := up_alloc (Below.refl w4.heap.size w4) (.cells #[.int .i64 i, .int .i64 i4] 24 (0, 0))
  have uu := up_call hb u
  have Fzs_4 := Lib.hid (Fzs_3.out.up uu)
  have Vxs_4 := Lib.hid (Vxs_3.out.mono uu)
  have Vys_4 := Lib.hid (Vys_3.out.mono uu)
  have Vzs_4 := Lib.hid (Vzs_3.out.mono uu)
  have Fus_4 := Lib.hid (Flt.new w4 i i4 24)
  have Vus_4 := Lib.hid (hvs.mono u)
  have B4 := Lib.hid (up_call B3.out uu)
  have Sus := Lib.hid hqs
  have Cus := Lib.hid hqc
  clear M4 hvs hqs hqc hb u uu Fzs_3 Vxs_3 Vys_3 Vzs_3
  go_wp2_with fail
  generalize w4.alloc (.cells #[.int .i64 i, .int .i64 i4] 24 (0, 0)) = W4 at Fzs_4 Fus_4 Vxs_4 Vys_4 Vzs_4 Vus_4 B4  ⊢
  have M5 := Lib.hid (mvMerge_any pb pc rb rc cb cc W4 (HQ.out.mono B4.out) (HR.out.mono B4.out) HC2.out HC3.out HL2.out HL3.out)
  refine M5.out.mono ?_
  rintro e w5 ⟨qv, vv, cv, rfl, hvs, hqs, -, hqc, hb⟩
  generalize Mv.mC (Mv.vs rb) (Mv.vs rc) = j at L3 ⊢
  generalize Mv.mI (Mv.vs rb) (Mv.vs rc) = i5
  have u := up_alloc (Below.refl w5.heap.size w5) (.cells #[.int .i64 j, .int .i64 i5] 24 (0, 0))
  have uu := up_call hb u
  have Fzs_5 := Lib.hid (Fzs_4.out.up uu)
  have Fus_5 := Lib.hid (Fus_4.out.up uu)
  have Vxs_5 := Lib.hid (Vxs_4.out.mono uu)
  have Vys_5 := Lib.hid (Vys_4.out.mono uu)
  have Vzs_5 := Lib.hid (Vzs_4.out.mono uu)
  have Vus_5 := Lib.hid (Vus_4.out.mono uu)
  have Fvv_5 := Lib.hid (Flt.new w5 j i5 24)
  have Vvv_5 := Lib.hid (hvs.mono u)
  have B5 := Lib.hid (up_call B4.out uu)
  have Svv := Lib.hid hqs
  have Cvv := Lib.hid hqc
  clear M5 hvs hqs hqc hb u uu Fzs_4 Fus_4 Vxs_4 Vys_4 Vzs_4 Vus_4
  go_wp2_with fail
  generalize w5.alloc (.cells #[.int .i64 j, .int .i64 i5] 24 (0, 0)) = W5 at Fzs_5 Fus_5 Fvv_5 Vxs_5 Vys_5 Vzs_5 Vus_5 Vvv_5 B5  ⊢
  have M6 := Lib.hid (mvMerge_any pa qv ra vv ca cv W5 (HP.out.mono B5.out) Vvv_5.out HC.out Cvv.out HL.out (by have := mL_small Svv.out; omega))
  rw [Svv.out] at M6
  have LK := Lib.hid (fun (h : Mv.mC (Mv.vs ra) (Mv.mL (Mv.vs rb) (Mv.vs rc)) = 0) => Mv.mL_val h)
  refine M6.out.mono ?_
  rintro e w6 ⟨qt, ts, ct, rfl, hvs, hqs, -, hqc, hb⟩
  generalize Mv.mC (Mv.vs ra) (Mv.mL (Mv.vs rb) (Mv.vs rc)) = k at L3 LK ⊢
  generalize Mv.mI (Mv.vs ra) (Mv.mL (Mv.vs rb) (Mv.vs rc)) = i6
  have u := up_alloc (Below.refl w6.heap.size w6) (.cells #[.int .i64 k, .int .i64 i6] 24 (0, 0))
  have uu := up_call hb u
  have Fzs_6 := Lib.hid (Fzs_5.out.up uu)
  have Fus_6 := Lib.hid (Fus_5.out.up uu)
  have Fvv_6 := Lib.hid (Fvv_5.out.up uu)
  have Vxs_6 := Lib.hid (Vxs_5.out.mono uu)
  have Vys_6 := Lib.hid (Vys_5.out.mono uu)
  have Vzs_6 := Lib.hid (Vzs_5.out.mono uu)
  have Vus_6 := Lib.hid (Vus_5.out.mono uu)
  have Vvv_6 := Lib.hid (Vvv_5.out.mono uu)
  have Fts_6 := Lib.hid (Flt.new w6 k i6 24)
  have Vts_6 := Lib.hid (hvs.mono u)
  have B6 := Lib.hid (up_call B5.out uu)
  have Sts := Lib.hid hqs
  have Cts := Lib.hid hqc
  clear M6 hvs hqs hqc hb u uu Fzs_5 Fus_5 Fvv_5 Vxs_5 Vys_5 Vzs_5 Vus_5 Vvv_5
  go_wp2_with fail
  generalize w6.alloc (.cells #[.int .i64 k, .int .i64 i6] 24 (0, 0)) = W6 at Fzs_6 Fus_6 Fvv_6 Fts_6 Vxs_6 Vys_6 Vzs_6 Vus_6 Vvv_6 Vts_6 B6  ⊢
  have E1 := Lib.hid (values_val qx qy xs ys cx cy W6 Vxs_6.out Vys_6.out (Sxs.out.trans (L1.out.trans Sys.out.symm)) (by rw [Sxs.out]; exact VL.out))
  refine E1.out.mono ?_
  rintro e w7 ⟨rfl, n, rfl⟩
  have E2 := Lib.hid (values_val qz qx zs xs cz cx (W6.drewN n) (Vzs_6.out.drewN n) (Vxs_6.out.drewN n) (Szs.out.trans Sxs.out.symm) (by rw [Szs.out]; exact VL.out))
  have FD0 := Lib.hid (Fzs_6.out.drewN n)
  have FD1 := Lib.hid (Fus_6.out.drewN n)
  have FD2 := Lib.hid (Fvv_6.out.drewN n)
  have FD3 := Lib.hid (Fts_6.out.drewN n)
  obtain ⟨a0_0, a0_1, -, -, -⟩ := FD0.out
  obtain ⟨a1_0, a1_1, -, -, -⟩ := FD1.out
  obtain ⟨a2_0, a2_1, -, -, -⟩ := FD2.out
  obtain ⟨a3_0, a3_1, -, -, -⟩ := FD3.out
  go_wp2_with fail
  refine E2.out.mono ?_
  rintro e w8 ⟨rfl, m, rfl⟩
  clear a0_0 a0_1 a1_0 a1_1 a2_0 a2_1 a3_0 a3_1
  have FE0 := Lib.hid (Fzs_6.out.drewN (n + m))
  have FE1 := Lib.hid (Fus_6.out.drewN (n + m))
  have FE2 := Lib.hid (Fvv_6.out.drewN (n + m))
  have FE3 := Lib.hid (Fts_6.out.drewN (n + m))
  obtain ⟨a0_0, a0_1, -, -, -⟩ := FE0.out
  obtain ⟨a1_0, a1_1, -, -, -⟩ := FE1.out
  obtain ⟨a2_0, a2_1, -, -, -⟩ := FE2.out
  obtain ⟨a3_0, a3_1, -, -, -⟩ := FE3.out
  have BN := Lib.hid (below_drewN B6.out (n + m))
  by_cases hi : i = 0
  case neg =>
    have qi : (i != 0) = true := by rw [bne_iff_ne]; exact hi
    clear hi
    go_wp2_with fail
    refine (first_any _).mono ?_
    rintro e w9 ⟨rfl, hb9⟩
    go_wp2_with fail
    go_returns
    exact ⟨rfl, up_call BN.out hb9⟩
  case pos =>
  have qi : (i != 0) = false := by rw [hi]; rfl
  have Hi := Lib.hid hi
  clear hi
  by_cases hj : j = 0
  case neg =>
    have qj : (j != 0) = true := by rw [bne_iff_ne]; exact hj
    clear hj
    go_wp2_with fail
    refine (first_any _).mono ?_
    rintro e w9 ⟨rfl, hb9⟩
    go_wp2_with fail
    go_returns
    exact ⟨rfl, up_call BN.out hb9⟩
  case pos =>
  have qj : (j != 0) = false := by rw [hj]; rfl
  have Hj := Lib.hid hj
  clear hj
  by_cases hk : k = 0
  case neg =>
    have qk : (k != 0) = true := by rw [bne_iff_ne]; exact hk
    clear hk
    go_wp2_with fail
    refine (first_any _).mono ?_
    rintro e w9 ⟨rfl, hb9⟩
    go_wp2_with fail
    go_returns
    exact ⟨rfl, up_call BN.out hb9⟩
  case pos =>
  have qk : (k != 0) = false := by rw [hk]; rfl
  have Hk := Lib.hid hk
  clear hk
  have E3 := Lib.hid (values_val qu qt us ts cu ct (W6.drewN (n + m)) (Vus_6.out.drewN (n + m)) (Vts_6.out.drewN (n + m)) (Sus.out.trans ((L3.out Hi.out Hj.out Hk.out).trans Sts.out.symm)) (by rw [Sus.out, L3.out Hi.out Hj.out Hk.out]; exact LK.out Hk.out))
  go_wp2_with fail
  refine E3.out.mono ?_
  rintro e w9 ⟨rfl, t, rfl⟩
  have BT := Lib.hid (below_drewN B6.out (n + m + t))
  go_wp2_with fail
  refine (first_any _).mono ?_
  rintro e w9 ⟨rfl, hb9⟩
  go_wp2_with fail
  go_returns
  exact ⟨rfl, up_call BT.out hb9⟩
end Go.Proofs.Ytidncnhhjfdifaa
