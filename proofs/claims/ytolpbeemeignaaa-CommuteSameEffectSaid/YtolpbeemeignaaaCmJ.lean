/-
  The law CommuteSameEffect, walked.
-/
import Derived.Test.YtolpbeemeignaaaCmI
namespace Go.Proofs.Ytolpbeemeignaaa
open Go.RowKit
set_option maxRecDepth 4000

set_option maxRecDepth 100000 in
set_option maxHeartbeats 8000000 in
theorem effect_walk (p : Option Addr) (hs : List Tp.H) (cap : Nat) (q : Option Addr) (ks : List Tp.H) (cap' : Nat) (pt : Option Addr) (t : List ByteArray) (ct : Nat) (w : World) (hp : Ptc w p hs) (_hcp : p = none → cap = 0) (hlp : hs.length ≤ 2513169434845) (_hlcp : hs.length ≤ cap) (_hfp : ∀ k ∈ hs, fits63 k.at') (hq : Ptc w q ks) (_hcq : q = none → cap' = 0) (hlq : ks.length ≤ 2513169434845) (_hlcq : ks.length ≤ cap') (_hfq : ∀ k ∈ ks, fits63 k.at') (hpt : Sts w pt t) (hcpt : pt = none → ct = 0) (_hlpt : t.length ≤ 8796093021952) (hlcpt : t.length ≤ ct) :
    Calls Try.prog 4 #[.agg #[.slice p hs.length cap], .agg #[.slice q ks.length cap'], .slice pt t.length ct] w (TPost w) := by
  have b0 := up_alloc (up_alloc (Below.refl w.heap.size w) (.cells #[.slice p hs.length cap] 24 (0, 0))) (.cells #[.slice q ks.length cap'] 24 (0, 0))
  have Op_0 := Lib.hid (((One.new w (.slice p hs.length cap) 24 (w.heap.size) (by simp)).alloc (.cells #[.slice q ks.length cap'] 24 (0, 0))))
  have Oq_0 := Lib.hid ((One.new (w.alloc (.cells #[.slice p hs.length cap] 24 (0, 0))) (.slice q ks.length cap') 24 (w.heap.size + 1) (by simp)))
  have Pp_0 := Lib.hid (hp.mono b0)
  have Pq_0 := Lib.hid (hq.mono b0)
  have Tpt_0 := Lib.hid (hpt.mono b0)
  have HCpt := Lib.hid hcpt
  have HLpt := Lib.hid hlcpt
  have B0 := Lib.hid b0
  clear hp hq hpt b0
  clear hcpt hlcpt
  go_enter Try.func4, Try.ntmps4
  go_wp2_with fail
  refine (cmCommute_any p q hs ks _ cap _ cap' _ rfl rfl Pp_0.out Pq_0.out hlp hlq).mono ?_
  rintro e w1 ⟨pa, cpa, pb, cpb, rfl, hpa, -, -, hpb, -, -, hb⟩
  have a1 := up_alloc (up_alloc (up_alloc (Below.refl w1.heap.size w1) (.cells #[.slice pa (Tp.eA1 hs ks).length cpa] 24 (0, 0))) (.cells #[.slice pb (Tp.eA2 hs ks).length cpb] 24 (0, 0))) (.cells #[.int .i64 (Tp.eC hs ks), .int .i64 (Tp.eI hs ks)] 26 (0, 0))
  have A_1 := Lib.hid ((((One.new w1 (.slice pa (Tp.eA1 hs ks).length cpa) 24 (w1.heap.size) (by simp)).alloc (.cells #[.slice pb (Tp.eA2 hs ks).length cpb] 24 (0, 0))).alloc (.cells #[.int .i64 (Tp.eC hs ks), .int .i64 (Tp.eI hs ks)] 26 (0, 0))))
  have Bb_1 := Lib.hid (((One.new (w1.alloc (.cells #[.slice pa (Tp.eA1 hs ks).length cpa] 24 (0, 0))) (.slice pb (Tp.eA2 hs ks).length cpb) 24 (w1.heap.size + 1) (by simp)).alloc (.cells #[.int .i64 (Tp.eC hs ks), .int .i64 (Tp.eI hs ks)] 26 (0, 0))))
  have F10_1 := Lib.hid ((by have := Flt.new ((w1.alloc (.cells #[.slice pa (Tp.eA1 hs ks).length cpa] 24 (0, 0))).alloc (.cells #[.slice pb (Tp.eA2 hs ks).length cpb] 24 (0, 0))) (Tp.eC hs ks) (Tp.eI hs ks) 26; simpa using this : Flt (((w1.alloc (.cells #[.slice pa (Tp.eA1 hs ks).length cpa] 24 (0, 0))).alloc (.cells #[.slice pb (Tp.eA2 hs ks).length cpb] 24 (0, 0))).alloc (.cells #[.int .i64 (Tp.eC hs ks), .int .i64 (Tp.eI hs ks)] 26 (0, 0))) (w1.heap.size + 1 + 1) (Tp.eC hs ks) (Tp.eI hs ks)))
  have Op_1 := Lib.hid ((Op_0.out.up hb).up a1)
  have Oq_1 := Lib.hid ((Oq_0.out.up hb).up a1)
  have Pp_1 := Lib.hid ((Pp_0.out.mono hb).mono a1)
  have Pq_1 := Lib.hid ((Pq_0.out.mono hb).mono a1)
  have Tpt_1 := Lib.hid ((Tpt_0.out.mono hb).mono a1)
  have Ppa_1 := Lib.hid ((hpa.self).mono a1)
  have Ppb_1 := Lib.hid ((hpb.self).mono a1)
  have B1 := Lib.hid (up_call (up_call B0.out hb) a1)
  clear hb a1 Op_0 Oq_0 Pp_0 Pq_0 Tpt_0 B0 
  clear hpa hpb
  by_cases k31 : Tp.eC hs ks = 0
  case neg =>
    have g : (Tp.eC hs ks != 0) = true := by simpa using k31
    go_wp2_with fail
    refine (exchanged_any _).mono ?_
    rintro e wz ⟨rfl, hbz⟩
    have BZ := Lib.hid (up_call B1.out hbz)
    clear hbz
    go_wp2_with fail
    go_ret
    exact ⟨rfl, BZ.out⟩
  have gk31 : (Tp.eC hs ks != 0) = false := by simpa using k31
  have Hk31 := Lib.hid k31
  clear k31
  cases hB : Tp.eB hs ks
  case false =>
    go_wp2_with fail
    refine (exchanged_any _).mono ?_
    rintro e wz ⟨rfl, hbz⟩
    have BZ := Lib.hid (up_call B1.out hbz)
    clear hbz
    go_wp2_with fail
    go_ret
    exact ⟨rfl, BZ.out⟩
  have HBX := Lib.hid hB
  clear hB
  have x1_0 := Op_1.out.c
  go_wp2_with fail
  refine (tpApply_any p pt hs t _ cap _ ct _ rfl rfl Pp_1.out hlp Tpt_1.out HCpt.out HLpt.out).mono ?_
  rintro e w2 ⟨vps, rfl, own, hb⟩
  obtain ⟨ps, cps, rfl, hcps, hlps⟩ := ownS_shape own
  have a2 := up_alloc (Below.refl w2.heap.size w2) (.cells #[.int .i64 (Tp.aC hs t), .int .i64 (Tp.aI hs t)] 26 (0, 0))
  have F12_2 := Lib.hid ((by have := Flt.new w2 (Tp.aC hs t) (Tp.aI hs t) 26; simpa using this : Flt (w2.alloc (.cells #[.int .i64 (Tp.aC hs t), .int .i64 (Tp.aI hs t)] 26 (0, 0))) (w2.heap.size) (Tp.aC hs t) (Tp.aI hs t)))
  have Op_2 := Lib.hid ((Op_1.out.up hb).up a2)
  have Oq_2 := Lib.hid ((Oq_1.out.up hb).up a2)
  have Pp_2 := Lib.hid ((Pp_1.out.mono hb).mono a2)
  have Pq_2 := Lib.hid ((Pq_1.out.mono hb).mono a2)
  have Tpt_2 := Lib.hid ((Tpt_1.out.mono hb).mono a2)
  have Ppa_2 := Lib.hid ((Ppa_1.out.mono hb).mono a2)
  have Ppb_2 := Lib.hid ((Ppb_1.out.mono hb).mono a2)
  have A_2 := Lib.hid ((A_1.out.up hb).up a2)
  have Bb_2 := Lib.hid ((Bb_1.out.up hb).up a2)
  have F10_2 := Lib.hid ((F10_1.out.up hb).up a2)
  have Tps_2 := Lib.hid ((ownS_sts own (aT_small hs t) (by have := aT_len hs t; omega)).mono a2)
  have B2 := Lib.hid (up_call (up_call B1.out hb) a2)
  clear hb a2 Op_1 Oq_1 Pp_1 Pq_1 Tpt_1 Ppa_1 Ppb_1 A_1 Bb_1 F10_1 B1 x1_0
  have HCps := Lib.hid hcps
  have HLps := Lib.hid hlps
  clear own hcps hlps
  have x2_0 := Oq_2.out.c
  go_wp2_with fail
  refine (tpApply_any q ps ks (Tp.aT hs t) _ cap' _ cps _ rfl rfl Pq_2.out hlq Tps_2.out HCps.out HLps.out).mono ?_
  rintro e w3 ⟨vpr, rfl, own, hb⟩
  obtain ⟨pr, cpr, rfl, hcpr, hlpr⟩ := ownS_shape own
  have a3 := up_alloc (Below.refl w3.heap.size w3) (.cells #[.int .i64 (Tp.aC ks (Tp.aT hs t)), .int .i64 (Tp.aI ks (Tp.aT hs t))] 26 (0, 0))
  have F14_3 := Lib.hid ((by have := Flt.new w3 (Tp.aC ks (Tp.aT hs t)) (Tp.aI ks (Tp.aT hs t)) 26; simpa using this : Flt (w3.alloc (.cells #[.int .i64 (Tp.aC ks (Tp.aT hs t)), .int .i64 (Tp.aI ks (Tp.aT hs t))] 26 (0, 0))) (w3.heap.size) (Tp.aC ks (Tp.aT hs t)) (Tp.aI ks (Tp.aT hs t))))
  have Op_3 := Lib.hid ((Op_2.out.up hb).up a3)
  have Oq_3 := Lib.hid ((Oq_2.out.up hb).up a3)
  have Pp_3 := Lib.hid ((Pp_2.out.mono hb).mono a3)
  have Pq_3 := Lib.hid ((Pq_2.out.mono hb).mono a3)
  have Tpt_3 := Lib.hid ((Tpt_2.out.mono hb).mono a3)
  have Ppa_3 := Lib.hid ((Ppa_2.out.mono hb).mono a3)
  have Ppb_3 := Lib.hid ((Ppb_2.out.mono hb).mono a3)
  have A_3 := Lib.hid ((A_2.out.up hb).up a3)
  have Bb_3 := Lib.hid ((Bb_2.out.up hb).up a3)
  have F10_3 := Lib.hid ((F10_2.out.up hb).up a3)
  have Tps_3 := Lib.hid ((Tps_2.out.mono hb).mono a3)
  have F12_3 := Lib.hid ((F12_2.out.up hb).up a3)
  have Tpr_3 := Lib.hid ((ownS_sts own (aT_small ks (Tp.aT hs t)) (by have := aT_len ks (Tp.aT hs t); omega)).mono a3)
  have B3 := Lib.hid (up_call (up_call B2.out hb) a3)
  clear hb a3 Op_2 Oq_2 Pp_2 Pq_2 Tpt_2 Ppa_2 Ppb_2 A_2 Bb_2 F10_2 Tps_2 F12_2 B2 x2_0
  have HCpr := Lib.hid hcpr
  have HLpr := Lib.hid hlpr
  clear own hcpr hlpr
  clear Op_3 Oq_3 Pp_3 Pq_3 Tps_3
  have x3_0 := A_3.out.c
  go_wp2_with fail
  refine (tpApply_any pa pt (Tp.eA1 hs ks) t _ cpa _ ct _ rfl rfl Ppa_3.out (by have := (eA_len hs ks).1; omega) Tpt_3.out HCpt.out HLpt.out).mono ?_
  rintro e w4 ⟨vpu, rfl, own, hb⟩
  obtain ⟨pu, cpu, rfl, hcpu, hlpu⟩ := ownS_shape own
  have a4 := up_alloc (Below.refl w4.heap.size w4) (.cells #[.int .i64 (Tp.aC (Tp.eA1 hs ks) t), .int .i64 (Tp.aI (Tp.eA1 hs ks) t)] 26 (0, 0))
  have F16_4 := Lib.hid ((by have := Flt.new w4 (Tp.aC (Tp.eA1 hs ks) t) (Tp.aI (Tp.eA1 hs ks) t) 26; simpa using this : Flt (w4.alloc (.cells #[.int .i64 (Tp.aC (Tp.eA1 hs ks) t), .int .i64 (Tp.aI (Tp.eA1 hs ks) t)] 26 (0, 0))) (w4.heap.size) (Tp.aC (Tp.eA1 hs ks) t) (Tp.aI (Tp.eA1 hs ks) t)))
  have Tpt_4 := Lib.hid ((Tpt_3.out.mono hb).mono a4)
  have Ppa_4 := Lib.hid ((Ppa_3.out.mono hb).mono a4)
  have Ppb_4 := Lib.hid ((Ppb_3.out.mono hb).mono a4)
  have A_4 := Lib.hid ((A_3.out.up hb).up a4)
  have Bb_4 := Lib.hid ((Bb_3.out.up hb).up a4)
  have F10_4 := Lib.hid ((F10_3.out.up hb).up a4)
  have F12_4 := Lib.hid ((F12_3.out.up hb).up a4)
  have Tpr_4 := Lib.hid ((Tpr_3.out.mono hb).mono a4)
  have F14_4 := Lib.hid ((F14_3.out.up hb).up a4)
  have Tpu_4 := Lib.hid ((ownS_sts own (aT_small (Tp.eA1 hs ks) t) (by have := aT_len (Tp.eA1 hs ks) t; omega)).mono a4)
  have B4 := Lib.hid (up_call (up_call B3.out hb) a4)
  clear hb a4 Tpt_3 Ppa_3 Ppb_3 A_3 Bb_3 F10_3 F12_3 Tpr_3 F14_3 B3 x3_0
  have HCpu := Lib.hid hcpu
  have HLpu := Lib.hid hlpu
  clear own hcpu hlpu
  have x4_0 := Bb_4.out.c
  go_wp2_with fail
  refine (tpApply_any pb pu (Tp.eA2 hs ks) (Tp.aT (Tp.eA1 hs ks) t) _ cpb _ cpu _ rfl rfl Ppb_4.out (by have := (eA_len hs ks).2; omega) Tpu_4.out HCpu.out HLpu.out).mono ?_
  rintro e w5 ⟨vpv, rfl, own, hb⟩
  obtain ⟨pv, cpv, rfl, hcpv, hlpv⟩ := ownS_shape own
  have a5 := up_alloc (Below.refl w5.heap.size w5) (.cells #[.int .i64 (Tp.aC (Tp.eA2 hs ks) (Tp.aT (Tp.eA1 hs ks) t)), .int .i64 (Tp.aI (Tp.eA2 hs ks) (Tp.aT (Tp.eA1 hs ks) t))] 26 (0, 0))
  have F18_5 := Lib.hid ((by have := Flt.new w5 (Tp.aC (Tp.eA2 hs ks) (Tp.aT (Tp.eA1 hs ks) t)) (Tp.aI (Tp.eA2 hs ks) (Tp.aT (Tp.eA1 hs ks) t)) 26; simpa using this : Flt (w5.alloc (.cells #[.int .i64 (Tp.aC (Tp.eA2 hs ks) (Tp.aT (Tp.eA1 hs ks) t)), .int .i64 (Tp.aI (Tp.eA2 hs ks) (Tp.aT (Tp.eA1 hs ks) t))] 26 (0, 0))) (w5.heap.size) (Tp.aC (Tp.eA2 hs ks) (Tp.aT (Tp.eA1 hs ks) t)) (Tp.aI (Tp.eA2 hs ks) (Tp.aT (Tp.eA1 hs ks) t))))
  have Tpt_5 := Lib.hid ((Tpt_4.out.mono hb).mono a5)
  have Ppa_5 := Lib.hid ((Ppa_4.out.mono hb).mono a5)
  have Ppb_5 := Lib.hid ((Ppb_4.out.mono hb).mono a5)
  have A_5 := Lib.hid ((A_4.out.up hb).up a5)
  have Bb_5 := Lib.hid ((Bb_4.out.up hb).up a5)
  have F10_5 := Lib.hid ((F10_4.out.up hb).up a5)
  have F12_5 := Lib.hid ((F12_4.out.up hb).up a5)
  have Tpr_5 := Lib.hid ((Tpr_4.out.mono hb).mono a5)
  have F14_5 := Lib.hid ((F14_4.out.up hb).up a5)
  have Tpu_5 := Lib.hid ((Tpu_4.out.mono hb).mono a5)
  have F16_5 := Lib.hid ((F16_4.out.up hb).up a5)
  have Tpv_5 := Lib.hid ((ownS_sts own (aT_small (Tp.eA2 hs ks) (Tp.aT (Tp.eA1 hs ks) t)) (by have := aT_len (Tp.eA2 hs ks) (Tp.aT (Tp.eA1 hs ks) t); omega)).mono a5)
  have B5 := Lib.hid (up_call (up_call B4.out hb) a5)
  clear hb a5 Tpt_4 Ppa_4 Ppb_4 A_4 Bb_4 F10_4 F12_4 Tpr_4 F14_4 Tpu_4 F16_4 B4 x4_0
  have HCpv := Lib.hid hcpv
  have HLpv := Lib.hid hlpv
  clear own hcpv hlpv
  clear Tpt_5 Ppa_5 Ppb_5 A_5 Bb_5 F10_5 Tpu_5
  by_cases k153 : Tp.aC hs t = 0
  case neg =>
    have g : (Tp.aC hs t != 0) = true := by simpa using k153
    have x5_0 := F12_5.out.c0
    have x5_1 := F14_5.out.c0
    have x5_2 := F16_5.out.c0
    go_wp2_with fail
    refine (exchanged_any _).mono ?_
    rintro e wz ⟨rfl, hbz⟩
    have BZ := Lib.hid (up_call B5.out hbz)
    clear hbz
    go_wp2_with fail
    go_ret
    exact ⟨rfl, BZ.out⟩
  have gk153 : (Tp.aC hs t != 0) = false := by simpa using k153
  have Hk153 := Lib.hid k153
  clear k153
  by_cases k170 : Tp.aC ks (Tp.aT hs t) = 0
  case neg =>
    have g : (Tp.aC ks (Tp.aT hs t) != 0) = true := by simpa using k170
    have x5_0 := F12_5.out.c0
    have x5_1 := F14_5.out.c0
    have x5_2 := F16_5.out.c0
    go_wp2_with fail
    refine (exchanged_any _).mono ?_
    rintro e wz ⟨rfl, hbz⟩
    have BZ := Lib.hid (up_call B5.out hbz)
    clear hbz
    go_wp2_with fail
    go_ret
    exact ⟨rfl, BZ.out⟩
  have gk170 : (Tp.aC ks (Tp.aT hs t) != 0) = false := by simpa using k170
  have Hk170 := Lib.hid k170
  clear k170
  by_cases k187 : Tp.aC (Tp.eA1 hs ks) t = 10
  case pos =>
    have g : (Tp.aC (Tp.eA1 hs ks) t == 10) = true := by simpa using k187
    clear k187
    have x5_0 := F12_5.out.c0
    have x5_1 := F14_5.out.c0
    have x5_2 := F16_5.out.c0
    go_wp2_with fail
    refine (exchanged_any _).mono ?_
    rintro e wz ⟨rfl, hbz⟩
    have BZ := Lib.hid (up_call B5.out hbz)
    clear hbz
    go_wp2_with fail
    go_ret
    exact ⟨rfl, BZ.out⟩
  have gk187 : (Tp.aC (Tp.eA1 hs ks) t == 10) = false := by simpa using k187
  have Hk187 := Lib.hid k187
  clear k187
  by_cases k205 : Tp.aC (Tp.eA2 hs ks) (Tp.aT (Tp.eA1 hs ks) t) = 10
  case pos =>
    have g : (Tp.aC (Tp.eA2 hs ks) (Tp.aT (Tp.eA1 hs ks) t) == 10) = true := by simpa using k205
    clear k205
    have x5_0 := F12_5.out.c0
    have x5_1 := F14_5.out.c0
    have x5_2 := F16_5.out.c0
    go_wp2_with fail
    refine (exchanged_any _).mono ?_
    rintro e wz ⟨rfl, hbz⟩
    have BZ := Lib.hid (up_call B5.out hbz)
    clear hbz
    go_wp2_with fail
    go_ret
    exact ⟨rfl, BZ.out⟩
  have gk205 : (Tp.aC (Tp.eA2 hs ks) (Tp.aT (Tp.eA1 hs ks) t) == 10) = false := by simpa using k205
  have Hk205 := Lib.hid k205
  clear k205
  have EE := Lib.hid (Tp.e_effect HBX.out Hk153.out Hk170.out Hk187.out Hk205.out)
  have i0 : (Tp.aC (Tp.eA1 hs ks) t == 0) = true := by simpa using EE.out.1
  have j0 : (Tp.aC (Tp.eA2 hs ks) (Tp.aT (Tp.eA1 hs ks) t) == 0) = true := by simpa using EE.out.2.1
  have x5_0 := F12_5.out.c0
  have x5_1 := F14_5.out.c0
  have x5_2 := F16_5.out.c0
  go_wp2_with fail
  refine (equal_any pv pr (Tp.aT (Tp.eA2 hs ks) (Tp.aT (Tp.eA1 hs ks) t)) (Tp.aT ks (Tp.aT hs t)) _ _ cpv cpr _ rfl rfl Tpv_5.out Tpr_5.out).mono ?_
  rintro e wy ⟨rfl, ny, rfl⟩
  rw [eqS_true (EE.out.2.2)]
  have BY := Lib.hid (below_drewN B5.out ny)
  clear F12_5 Tpr_5 F14_5 F16_5 Tpv_5 F18_5 x5_0 x5_1 x5_2
  go_wp2_with fail
  refine (exchanged_any _).mono ?_
  rintro e wz ⟨rfl, hbz⟩
  have BZ := Lib.hid (up_call BY.out hbz)
  clear hbz
  go_wp2_with fail
  go_ret
  exact ⟨rfl, BZ.out⟩
end Go.Proofs.Ytolpbeemeignaaa
