/-
  The law CommuteInverse, walked.
-/
import Derived.Test.YtolpbeemeignaaaCmI
namespace Go.Proofs.Ytolpbeemeignaaa
open Go.RowKit
set_option maxRecDepth 4000

set_option maxRecDepth 100000 in
set_option maxHeartbeats 8000000 in
theorem inverse_walk (p : Option Addr) (hs : List Tp.H) (cap : Nat) (q : Option Addr) (ks : List Tp.H) (cap' : Nat) (w : World) (hp : Ptc w p hs) (_hcp : p = none → cap = 0) (hlp : hs.length ≤ 2513169434845) (_hlcp : hs.length ≤ cap) (_hfp : ∀ k ∈ hs, fits63 k.at') (hq : Ptc w q ks) (_hcq : q = none → cap' = 0) (hlq : ks.length ≤ 2513169434845) (_hlcq : ks.length ≤ cap') (_hfq : ∀ k ∈ ks, fits63 k.at') :
    Calls Try.prog 6 #[.agg #[.slice p hs.length cap], .agg #[.slice q ks.length cap']] w (TPost w) := by
  have b0 := up_alloc (up_alloc (Below.refl w.heap.size w) (.cells #[.slice p hs.length cap] 24 (0, 0))) (.cells #[.slice q ks.length cap'] 24 (0, 0))
  have Op_0 := Lib.hid (((One.new w (.slice p hs.length cap) 24 (w.heap.size) (by simp)).alloc (.cells #[.slice q ks.length cap'] 24 (0, 0))))
  have Oq_0 := Lib.hid ((One.new (w.alloc (.cells #[.slice p hs.length cap] 24 (0, 0))) (.slice q ks.length cap') 24 (w.heap.size + 1) (by simp)))
  have Pp_0 := Lib.hid (hp.mono b0)
  have Pq_0 := Lib.hid (hq.mono b0)
  have B0 := Lib.hid b0
  clear hp hq b0
  go_enter Try.func6, Try.ntmps6
  go_wp2_with fail
  refine (cmCommute_any p q hs ks _ cap _ cap' _ rfl rfl Pp_0.out Pq_0.out hlp hlq).mono ?_
  rintro e w1 ⟨pa, cpa, pb, cpb, rfl, hpa, -, -, hpb, -, -, hb⟩
  have a1 := up_alloc (up_alloc (up_alloc (Below.refl w1.heap.size w1) (.cells #[.slice pa (Tp.eA1 hs ks).length cpa] 24 (0, 0))) (.cells #[.slice pb (Tp.eA2 hs ks).length cpb] 24 (0, 0))) (.cells #[.int .i64 (Tp.eC hs ks), .int .i64 (Tp.eI hs ks)] 26 (0, 0))
  have A_1 := Lib.hid ((((One.new w1 (.slice pa (Tp.eA1 hs ks).length cpa) 24 (w1.heap.size) (by simp)).alloc (.cells #[.slice pb (Tp.eA2 hs ks).length cpb] 24 (0, 0))).alloc (.cells #[.int .i64 (Tp.eC hs ks), .int .i64 (Tp.eI hs ks)] 26 (0, 0))))
  have Bb_1 := Lib.hid (((One.new (w1.alloc (.cells #[.slice pa (Tp.eA1 hs ks).length cpa] 24 (0, 0))) (.slice pb (Tp.eA2 hs ks).length cpb) 24 (w1.heap.size + 1) (by simp)).alloc (.cells #[.int .i64 (Tp.eC hs ks), .int .i64 (Tp.eI hs ks)] 26 (0, 0))))
  have F8_1 := Lib.hid ((by have := Flt.new ((w1.alloc (.cells #[.slice pa (Tp.eA1 hs ks).length cpa] 24 (0, 0))).alloc (.cells #[.slice pb (Tp.eA2 hs ks).length cpb] 24 (0, 0))) (Tp.eC hs ks) (Tp.eI hs ks) 26; simpa using this : Flt (((w1.alloc (.cells #[.slice pa (Tp.eA1 hs ks).length cpa] 24 (0, 0))).alloc (.cells #[.slice pb (Tp.eA2 hs ks).length cpb] 24 (0, 0))).alloc (.cells #[.int .i64 (Tp.eC hs ks), .int .i64 (Tp.eI hs ks)] 26 (0, 0))) (w1.heap.size + 1 + 1) (Tp.eC hs ks) (Tp.eI hs ks)))
  have Op_1 := Lib.hid ((Op_0.out.up hb).up a1)
  have Oq_1 := Lib.hid ((Oq_0.out.up hb).up a1)
  have Pp_1 := Lib.hid ((Pp_0.out.mono hb).mono a1)
  have Pq_1 := Lib.hid ((Pq_0.out.mono hb).mono a1)
  have Ppa_1 := Lib.hid ((hpa.self).mono a1)
  have Ppb_1 := Lib.hid ((hpb.self).mono a1)
  have B1 := Lib.hid (up_call (up_call B0.out hb) a1)
  clear hb a1 Op_0 Oq_0 Pp_0 Pq_0 B0 
  clear hpa hpb
  have x1_0 := Op_1.out.c
  go_wp2_with fail
  refine (tpInvert_any p hs _ cap _ rfl Pp_1.out hlp).mono ?_
  rintro e w2 ⟨px, cpx, rfl, hpx, -, -, hb⟩
  have a2 := up_alloc (up_alloc (Below.refl w2.heap.size w2) (.cells #[.slice px (Tp.vT hs).length cpx] 24 (0, 0))) (.cells #[.int .i64 (Tp.vC' hs), .int .i64 (Tp.vI' hs)] 26 (0, 0))
  have X_2 := Lib.hid (((One.new w2 (.slice px (Tp.vT hs).length cpx) 24 (w2.heap.size) (by simp)).alloc (.cells #[.int .i64 (Tp.vC' hs), .int .i64 (Tp.vI' hs)] 26 (0, 0))))
  have F10_2 := Lib.hid ((by have := Flt.new (w2.alloc (.cells #[.slice px (Tp.vT hs).length cpx] 24 (0, 0))) (Tp.vC' hs) (Tp.vI' hs) 26; simpa using this : Flt ((w2.alloc (.cells #[.slice px (Tp.vT hs).length cpx] 24 (0, 0))).alloc (.cells #[.int .i64 (Tp.vC' hs), .int .i64 (Tp.vI' hs)] 26 (0, 0))) (w2.heap.size + 1) (Tp.vC' hs) (Tp.vI' hs)))
  have Op_2 := Lib.hid ((Op_1.out.up hb).up a2)
  have Oq_2 := Lib.hid ((Oq_1.out.up hb).up a2)
  have Pp_2 := Lib.hid ((Pp_1.out.mono hb).mono a2)
  have Pq_2 := Lib.hid ((Pq_1.out.mono hb).mono a2)
  have Ppa_2 := Lib.hid ((Ppa_1.out.mono hb).mono a2)
  have Ppb_2 := Lib.hid ((Ppb_1.out.mono hb).mono a2)
  have A_2 := Lib.hid ((A_1.out.up hb).up a2)
  have Bb_2 := Lib.hid ((Bb_1.out.up hb).up a2)
  have F8_2 := Lib.hid ((F8_1.out.up hb).up a2)
  have Ppx_2 := Lib.hid ((hpx).mono a2)
  have B2 := Lib.hid (up_call (up_call B1.out hb) a2)
  clear hb a2 Op_1 Oq_1 Pp_1 Pq_1 Ppa_1 Ppb_1 A_1 Bb_1 F8_1 B1 x1_0
  clear hpx
  have x2_0 := Oq_2.out.c
  go_wp2_with fail
  refine (tpInvert_any q ks _ cap' _ rfl Pq_2.out hlq).mono ?_
  rintro e w3 ⟨py, cpy, rfl, hpy, -, -, hb⟩
  have a3 := up_alloc (up_alloc (Below.refl w3.heap.size w3) (.cells #[.slice py (Tp.vT ks).length cpy] 24 (0, 0))) (.cells #[.int .i64 (Tp.vC' ks), .int .i64 (Tp.vI' ks)] 26 (0, 0))
  have Y_3 := Lib.hid (((One.new w3 (.slice py (Tp.vT ks).length cpy) 24 (w3.heap.size) (by simp)).alloc (.cells #[.int .i64 (Tp.vC' ks), .int .i64 (Tp.vI' ks)] 26 (0, 0))))
  have F12_3 := Lib.hid ((by have := Flt.new (w3.alloc (.cells #[.slice py (Tp.vT ks).length cpy] 24 (0, 0))) (Tp.vC' ks) (Tp.vI' ks) 26; simpa using this : Flt ((w3.alloc (.cells #[.slice py (Tp.vT ks).length cpy] 24 (0, 0))).alloc (.cells #[.int .i64 (Tp.vC' ks), .int .i64 (Tp.vI' ks)] 26 (0, 0))) (w3.heap.size + 1) (Tp.vC' ks) (Tp.vI' ks)))
  have Op_3 := Lib.hid ((Op_2.out.up hb).up a3)
  have Oq_3 := Lib.hid ((Oq_2.out.up hb).up a3)
  have Pp_3 := Lib.hid ((Pp_2.out.mono hb).mono a3)
  have Pq_3 := Lib.hid ((Pq_2.out.mono hb).mono a3)
  have Ppa_3 := Lib.hid ((Ppa_2.out.mono hb).mono a3)
  have Ppb_3 := Lib.hid ((Ppb_2.out.mono hb).mono a3)
  have A_3 := Lib.hid ((A_2.out.up hb).up a3)
  have Bb_3 := Lib.hid ((Bb_2.out.up hb).up a3)
  have F8_3 := Lib.hid ((F8_2.out.up hb).up a3)
  have Ppx_3 := Lib.hid ((Ppx_2.out.mono hb).mono a3)
  have X_3 := Lib.hid ((X_2.out.up hb).up a3)
  have F10_3 := Lib.hid ((F10_2.out.up hb).up a3)
  have Ppy_3 := Lib.hid ((hpy).mono a3)
  have B3 := Lib.hid (up_call (up_call B2.out hb) a3)
  clear hb a3 Op_2 Oq_2 Pp_2 Pq_2 Ppa_2 Ppb_2 A_2 Bb_2 F8_2 Ppx_2 X_2 F10_2 B2 x2_0
  clear hpy
  clear Op_3 Oq_3 Pp_3 Pq_3
  by_cases k70 : Tp.eC hs ks = 0
  case neg =>
    have g : (Tp.eC hs ks != 0) = true := by simpa using k70
    have x3_0 := F8_3.out.c0
    have x3_1 := F10_3.out.c0
    go_wp2_with fail
    refine (exchanged_any _).mono ?_
    rintro e wz ⟨rfl, hbz⟩
    have BZ := Lib.hid (up_call B3.out hbz)
    clear hbz
    go_wp2_with fail
    go_ret
    exact ⟨rfl, BZ.out⟩
  have gk70 : (Tp.eC hs ks != 0) = false := by simpa using k70
  have Hk70 := Lib.hid k70
  clear k70
  by_cases k86 : Tp.vC' hs = 0
  case neg =>
    have g : (Tp.vC' hs != 0) = true := by simpa using k86
    have x3_0 := F8_3.out.c0
    have x3_1 := F10_3.out.c0
    go_wp2_with fail
    refine (exchanged_any _).mono ?_
    rintro e wz ⟨rfl, hbz⟩
    have BZ := Lib.hid (up_call B3.out hbz)
    clear hbz
    go_wp2_with fail
    go_ret
    exact ⟨rfl, BZ.out⟩
  have gk86 : (Tp.vC' hs != 0) = false := by simpa using k86
  have Hk86 := Lib.hid k86
  clear k86
  by_cases k102 : Tp.vC' ks = 0
  case neg =>
    have g : (Tp.vC' ks != 0) = true := by simpa using k102
    have x3_0 := F8_3.out.c0
    have x3_1 := F10_3.out.c0
    go_wp2_with fail
    refine (exchanged_any _).mono ?_
    rintro e wz ⟨rfl, hbz⟩
    have BZ := Lib.hid (up_call B3.out hbz)
    clear hbz
    go_wp2_with fail
    go_ret
    exact ⟨rfl, BZ.out⟩
  have gk102 : (Tp.vC' ks != 0) = false := by simpa using k102
  have Hk102 := Lib.hid k102
  clear k102
  cases hB : Tp.eB hs ks
  case false =>
    have x3_0 := F8_3.out.c0
    have x3_1 := F10_3.out.c0
    go_wp2_with fail
    refine (exchanged_any _).mono ?_
    rintro e wz ⟨rfl, hbz⟩
    have BZ := Lib.hid (up_call B3.out hbz)
    clear hbz
    go_wp2_with fail
    go_ret
    exact ⟨rfl, BZ.out⟩
  have HBX := Lib.hid hB
  clear hB
  have x3_0 := F8_3.out.c0
  have x3_1 := F10_3.out.c0
  have x3_2 := X_3.out.c
  have x3_3 := Y_3.out.c
  go_wp2_with fail
  refine (cmCommute_any py px (Tp.vT ks) (Tp.vT hs) _ cpy _ cpx _ rfl rfl Ppy_3.out Ppx_3.out (by have := vT_len ks; omega) (by have := vT_len hs; omega)).mono ?_
  rintro e w4 ⟨pc, cpc, pd, cpd, rfl, hpc, -, -, hpd, -, -, hb⟩
  have a4 := up_alloc (up_alloc (up_alloc (Below.refl w4.heap.size w4) (.cells #[.slice pc (Tp.eA1 (Tp.vT ks) (Tp.vT hs)).length cpc] 24 (0, 0))) (.cells #[.slice pd (Tp.eA2 (Tp.vT ks) (Tp.vT hs)).length cpd] 24 (0, 0))) (.cells #[.int .i64 (Tp.eC (Tp.vT ks) (Tp.vT hs)), .int .i64 (Tp.eI (Tp.vT ks) (Tp.vT hs))] 26 (0, 0))
  have C_4 := Lib.hid ((((One.new w4 (.slice pc (Tp.eA1 (Tp.vT ks) (Tp.vT hs)).length cpc) 24 (w4.heap.size) (by simp)).alloc (.cells #[.slice pd (Tp.eA2 (Tp.vT ks) (Tp.vT hs)).length cpd] 24 (0, 0))).alloc (.cells #[.int .i64 (Tp.eC (Tp.vT ks) (Tp.vT hs)), .int .i64 (Tp.eI (Tp.vT ks) (Tp.vT hs))] 26 (0, 0))))
  have D_4 := Lib.hid (((One.new (w4.alloc (.cells #[.slice pc (Tp.eA1 (Tp.vT ks) (Tp.vT hs)).length cpc] 24 (0, 0))) (.slice pd (Tp.eA2 (Tp.vT ks) (Tp.vT hs)).length cpd) 24 (w4.heap.size + 1) (by simp)).alloc (.cells #[.int .i64 (Tp.eC (Tp.vT ks) (Tp.vT hs)), .int .i64 (Tp.eI (Tp.vT ks) (Tp.vT hs))] 26 (0, 0))))
  have F16_4 := Lib.hid ((by have := Flt.new ((w4.alloc (.cells #[.slice pc (Tp.eA1 (Tp.vT ks) (Tp.vT hs)).length cpc] 24 (0, 0))).alloc (.cells #[.slice pd (Tp.eA2 (Tp.vT ks) (Tp.vT hs)).length cpd] 24 (0, 0))) (Tp.eC (Tp.vT ks) (Tp.vT hs)) (Tp.eI (Tp.vT ks) (Tp.vT hs)) 26; simpa using this : Flt (((w4.alloc (.cells #[.slice pc (Tp.eA1 (Tp.vT ks) (Tp.vT hs)).length cpc] 24 (0, 0))).alloc (.cells #[.slice pd (Tp.eA2 (Tp.vT ks) (Tp.vT hs)).length cpd] 24 (0, 0))).alloc (.cells #[.int .i64 (Tp.eC (Tp.vT ks) (Tp.vT hs)), .int .i64 (Tp.eI (Tp.vT ks) (Tp.vT hs))] 26 (0, 0))) (w4.heap.size + 1 + 1) (Tp.eC (Tp.vT ks) (Tp.vT hs)) (Tp.eI (Tp.vT ks) (Tp.vT hs))))
  have Ppa_4 := Lib.hid ((Ppa_3.out.mono hb).mono a4)
  have Ppb_4 := Lib.hid ((Ppb_3.out.mono hb).mono a4)
  have A_4 := Lib.hid ((A_3.out.up hb).up a4)
  have Bb_4 := Lib.hid ((Bb_3.out.up hb).up a4)
  have F8_4 := Lib.hid ((F8_3.out.up hb).up a4)
  have Ppx_4 := Lib.hid ((Ppx_3.out.mono hb).mono a4)
  have X_4 := Lib.hid ((X_3.out.up hb).up a4)
  have F10_4 := Lib.hid ((F10_3.out.up hb).up a4)
  have Ppy_4 := Lib.hid ((Ppy_3.out.mono hb).mono a4)
  have Y_4 := Lib.hid ((Y_3.out.up hb).up a4)
  have F12_4 := Lib.hid ((F12_3.out.up hb).up a4)
  have Ppc_4 := Lib.hid ((hpc.self).mono a4)
  have Ppd_4 := Lib.hid ((hpd.self).mono a4)
  have B4 := Lib.hid (up_call (up_call B3.out hb) a4)
  clear hb a4 Ppa_3 Ppb_3 A_3 Bb_3 F8_3 Ppx_3 X_3 F10_3 Ppy_3 Y_3 F12_3 B3 x3_0 x3_1 x3_2 x3_3
  clear hpc hpd
  clear F8_4 Ppx_4 X_4 F10_4 Ppy_4 Y_4 F12_4
  have x4_0 := Bb_4.out.c
  go_wp2_with fail
  refine (tpInvert_any pb (Tp.eA2 hs ks) _ cpb _ rfl Ppb_4.out (by have := (eA_len hs ks).2; omega)).mono ?_
  rintro e w5 ⟨pu, cpu, rfl, hpu, -, -, hb⟩
  have a5 := up_alloc (up_alloc (Below.refl w5.heap.size w5) (.cells #[.slice pu (Tp.vT (Tp.eA2 hs ks)).length cpu] 24 (0, 0))) (.cells #[.int .i64 (Tp.vC' (Tp.eA2 hs ks)), .int .i64 (Tp.vI' (Tp.eA2 hs ks))] 26 (0, 0))
  have U_5 := Lib.hid (((One.new w5 (.slice pu (Tp.vT (Tp.eA2 hs ks)).length cpu) 24 (w5.heap.size) (by simp)).alloc (.cells #[.int .i64 (Tp.vC' (Tp.eA2 hs ks)), .int .i64 (Tp.vI' (Tp.eA2 hs ks))] 26 (0, 0))))
  have F18_5 := Lib.hid ((by have := Flt.new (w5.alloc (.cells #[.slice pu (Tp.vT (Tp.eA2 hs ks)).length cpu] 24 (0, 0))) (Tp.vC' (Tp.eA2 hs ks)) (Tp.vI' (Tp.eA2 hs ks)) 26; simpa using this : Flt ((w5.alloc (.cells #[.slice pu (Tp.vT (Tp.eA2 hs ks)).length cpu] 24 (0, 0))).alloc (.cells #[.int .i64 (Tp.vC' (Tp.eA2 hs ks)), .int .i64 (Tp.vI' (Tp.eA2 hs ks))] 26 (0, 0))) (w5.heap.size + 1) (Tp.vC' (Tp.eA2 hs ks)) (Tp.vI' (Tp.eA2 hs ks))))
  have Ppa_5 := Lib.hid ((Ppa_4.out.mono hb).mono a5)
  have Ppb_5 := Lib.hid ((Ppb_4.out.mono hb).mono a5)
  have A_5 := Lib.hid ((A_4.out.up hb).up a5)
  have Bb_5 := Lib.hid ((Bb_4.out.up hb).up a5)
  have Ppc_5 := Lib.hid ((Ppc_4.out.mono hb).mono a5)
  have Ppd_5 := Lib.hid ((Ppd_4.out.mono hb).mono a5)
  have C_5 := Lib.hid ((C_4.out.up hb).up a5)
  have D_5 := Lib.hid ((D_4.out.up hb).up a5)
  have F16_5 := Lib.hid ((F16_4.out.up hb).up a5)
  have Ppu_5 := Lib.hid ((hpu).mono a5)
  have B5 := Lib.hid (up_call (up_call B4.out hb) a5)
  clear hb a5 Ppa_4 Ppb_4 A_4 Bb_4 Ppc_4 Ppd_4 C_4 D_4 F16_4 B4 x4_0
  clear hpu
  have x5_0 := A_5.out.c
  go_wp2_with fail
  refine (tpInvert_any pa (Tp.eA1 hs ks) _ cpa _ rfl Ppa_5.out (by have := (eA_len hs ks).1; omega)).mono ?_
  rintro e w6 ⟨pv, cpv, rfl, hpv, -, -, hb⟩
  have a6 := up_alloc (up_alloc (Below.refl w6.heap.size w6) (.cells #[.slice pv (Tp.vT (Tp.eA1 hs ks)).length cpv] 24 (0, 0))) (.cells #[.int .i64 (Tp.vC' (Tp.eA1 hs ks)), .int .i64 (Tp.vI' (Tp.eA1 hs ks))] 26 (0, 0))
  have V_6 := Lib.hid (((One.new w6 (.slice pv (Tp.vT (Tp.eA1 hs ks)).length cpv) 24 (w6.heap.size) (by simp)).alloc (.cells #[.int .i64 (Tp.vC' (Tp.eA1 hs ks)), .int .i64 (Tp.vI' (Tp.eA1 hs ks))] 26 (0, 0))))
  have F20_6 := Lib.hid ((by have := Flt.new (w6.alloc (.cells #[.slice pv (Tp.vT (Tp.eA1 hs ks)).length cpv] 24 (0, 0))) (Tp.vC' (Tp.eA1 hs ks)) (Tp.vI' (Tp.eA1 hs ks)) 26; simpa using this : Flt ((w6.alloc (.cells #[.slice pv (Tp.vT (Tp.eA1 hs ks)).length cpv] 24 (0, 0))).alloc (.cells #[.int .i64 (Tp.vC' (Tp.eA1 hs ks)), .int .i64 (Tp.vI' (Tp.eA1 hs ks))] 26 (0, 0))) (w6.heap.size + 1) (Tp.vC' (Tp.eA1 hs ks)) (Tp.vI' (Tp.eA1 hs ks))))
  have Ppa_6 := Lib.hid ((Ppa_5.out.mono hb).mono a6)
  have Ppb_6 := Lib.hid ((Ppb_5.out.mono hb).mono a6)
  have A_6 := Lib.hid ((A_5.out.up hb).up a6)
  have Bb_6 := Lib.hid ((Bb_5.out.up hb).up a6)
  have Ppc_6 := Lib.hid ((Ppc_5.out.mono hb).mono a6)
  have Ppd_6 := Lib.hid ((Ppd_5.out.mono hb).mono a6)
  have C_6 := Lib.hid ((C_5.out.up hb).up a6)
  have D_6 := Lib.hid ((D_5.out.up hb).up a6)
  have F16_6 := Lib.hid ((F16_5.out.up hb).up a6)
  have Ppu_6 := Lib.hid ((Ppu_5.out.mono hb).mono a6)
  have U_6 := Lib.hid ((U_5.out.up hb).up a6)
  have F18_6 := Lib.hid ((F18_5.out.up hb).up a6)
  have Ppv_6 := Lib.hid ((hpv).mono a6)
  have B6 := Lib.hid (up_call (up_call B5.out hb) a6)
  clear hb a6 Ppa_5 Ppb_5 A_5 Bb_5 Ppc_5 Ppd_5 C_5 D_5 F16_5 Ppu_5 U_5 F18_5 B5 x5_0
  clear hpv
  clear Ppa_6 Ppb_6 A_6 Bb_6
  by_cases k204 : Tp.eC (Tp.vT ks) (Tp.vT hs) = 0
  case neg =>
    have g : (Tp.eC (Tp.vT ks) (Tp.vT hs) != 0) = true := by simpa using k204
    have x6_0 := F16_6.out.c0
    have x6_1 := F18_6.out.c0
    go_wp2_with fail
    refine (exchanged_any _).mono ?_
    rintro e wz ⟨rfl, hbz⟩
    have BZ := Lib.hid (up_call B6.out hbz)
    clear hbz
    go_wp2_with fail
    go_ret
    exact ⟨rfl, BZ.out⟩
  have gk204 : (Tp.eC (Tp.vT ks) (Tp.vT hs) != 0) = false := by simpa using k204
  have Hk204 := Lib.hid k204
  clear k204
  by_cases k220 : Tp.vC' (Tp.eA2 hs ks) = 0
  case neg =>
    have g : (Tp.vC' (Tp.eA2 hs ks) != 0) = true := by simpa using k220
    have x6_0 := F16_6.out.c0
    have x6_1 := F18_6.out.c0
    go_wp2_with fail
    refine (exchanged_any _).mono ?_
    rintro e wz ⟨rfl, hbz⟩
    have BZ := Lib.hid (up_call B6.out hbz)
    clear hbz
    go_wp2_with fail
    go_ret
    exact ⟨rfl, BZ.out⟩
  have gk220 : (Tp.vC' (Tp.eA2 hs ks) != 0) = false := by simpa using k220
  have Hk220 := Lib.hid k220
  clear k220
  by_cases k236 : Tp.vC' (Tp.eA1 hs ks) = 0
  case neg =>
    have g : (Tp.vC' (Tp.eA1 hs ks) != 0) = true := by simpa using k236
    have x6_0 := F16_6.out.c0
    have x6_1 := F18_6.out.c0
    go_wp2_with fail
    refine (exchanged_any _).mono ?_
    rintro e wz ⟨rfl, hbz⟩
    have BZ := Lib.hid (up_call B6.out hbz)
    clear hbz
    go_wp2_with fail
    go_ret
    exact ⟨rfl, BZ.out⟩
  have gk236 : (Tp.vC' (Tp.eA1 hs ks) != 0) = false := by simpa using k236
  have Hk236 := Lib.hid k236
  clear k236
  have EE := Lib.hid (Tp.e_inverse HBX.out Hk86.out Hk102.out Hk220.out Hk236.out)
  have gB := EE.out.1
  have x6_0 := F16_6.out.c0
  have x6_1 := F18_6.out.c0
  have x6_2 := C_6.out.c
  have x6_3 := U_6.out.c
  go_wp2_with fail
  refine (patchEq_any pc pu (Tp.eA1 (Tp.vT ks) (Tp.vT hs)) (Tp.vT (Tp.eA2 hs ks)) _ _ cpc cpu _ rfl rfl Ppc_6.out Ppu_6.out (by have := (eA_len (Tp.vT ks) (Tp.vT hs)).1; omega)).mono ?_
  rintro e w7 ⟨rfl, hb⟩
  rw [eqP_true (EE.out.2.1)]
  have Ppc_7 := Lib.hid (Ppc_6.out.mono hb)
  have Ppd_7 := Lib.hid (Ppd_6.out.mono hb)
  have C_7 := Lib.hid (C_6.out.up hb)
  have D_7 := Lib.hid (D_6.out.up hb)
  have F16_7 := Lib.hid (F16_6.out.up hb)
  have Ppu_7 := Lib.hid (Ppu_6.out.mono hb)
  have U_7 := Lib.hid (U_6.out.up hb)
  have F18_7 := Lib.hid (F18_6.out.up hb)
  have Ppv_7 := Lib.hid (Ppv_6.out.mono hb)
  have V_7 := Lib.hid (V_6.out.up hb)
  have F20_7 := Lib.hid (F20_6.out.up hb)
  have B7 := Lib.hid (up_call B6.out hb)
  clear hb  Ppc_6 Ppd_6 C_6 D_6 F16_6 Ppu_6 U_6 F18_6 Ppv_6 V_6 F20_6 B6 x6_0 x6_1 x6_2 x6_3
  have x7_0 := D_7.out.c
  have x7_1 := V_7.out.c
  go_wp2_with fail
  refine (patchEq_any pd pv (Tp.eA2 (Tp.vT ks) (Tp.vT hs)) (Tp.vT (Tp.eA1 hs ks)) _ _ cpd cpv _ rfl rfl Ppd_7.out Ppv_7.out (by have := (eA_len (Tp.vT ks) (Tp.vT hs)).2; omega)).mono ?_
  rintro e w8 ⟨rfl, hb⟩
  rw [eqP_true (EE.out.2.2)]
  have Ppc_8 := Lib.hid (Ppc_7.out.mono hb)
  have Ppd_8 := Lib.hid (Ppd_7.out.mono hb)
  have C_8 := Lib.hid (C_7.out.up hb)
  have D_8 := Lib.hid (D_7.out.up hb)
  have F16_8 := Lib.hid (F16_7.out.up hb)
  have Ppu_8 := Lib.hid (Ppu_7.out.mono hb)
  have U_8 := Lib.hid (U_7.out.up hb)
  have F18_8 := Lib.hid (F18_7.out.up hb)
  have Ppv_8 := Lib.hid (Ppv_7.out.mono hb)
  have V_8 := Lib.hid (V_7.out.up hb)
  have F20_8 := Lib.hid (F20_7.out.up hb)
  have B8 := Lib.hid (up_call B7.out hb)
  clear hb  Ppc_7 Ppd_7 C_7 D_7 F16_7 Ppu_7 U_7 F18_7 Ppv_7 V_7 F20_7 B7 x7_0 x7_1
  go_wp2_with fail
  refine (exchanged_any _).mono ?_
  rintro e wz ⟨rfl, hbz⟩
  have BZ := Lib.hid (up_call B8.out hbz)
  clear hbz
  go_wp2_with fail
  go_ret
  exact ⟨rfl, BZ.out⟩
end Go.Proofs.Ytolpbeemeignaaa
