/-
  The law CommuteRebases, walked.
-/
import Derived.Test.YtolpbeemeignaaaCmI
namespace Go.Proofs.Ytolpbeemeignaaa
open Go.RowKit
set_option maxRecDepth 4000

set_option maxRecDepth 100000 in
set_option maxHeartbeats 8000000 in
theorem rebases_walk (p : Option Addr) (hs : List Tp.H) (cap : Nat) (q : Option Addr) (ks : List Tp.H) (cap' : Nat) (pt : Option Addr) (t : List ByteArray) (ct : Nat) (w : World) (hp : Ptc w p hs) (_hcp : p = none → cap = 0) (hlp : hs.length ≤ 2513169434845) (_hlcp : hs.length ≤ cap) (_hfp : ∀ k ∈ hs, fits63 k.at') (hq : Ptc w q ks) (_hcq : q = none → cap' = 0) (hlq : ks.length ≤ 2513169434845) (_hlcq : ks.length ≤ cap') (_hfq : ∀ k ∈ ks, fits63 k.at') (hpt : Sts w pt t) (hcpt : pt = none → ct = 0) (_hlpt : t.length ≤ 8796093021952) (hlcpt : t.length ≤ ct) :
    Calls Try.prog 7 #[.agg #[.slice p hs.length cap], .agg #[.slice q ks.length cap'], .slice pt t.length ct] w (TPost w) := by
  have b0 := up_alloc (up_alloc (Below.refl w.heap.size w) (.cells #[.slice p hs.length cap] 24 (0, 0))) (.cells #[.slice q ks.length cap'] 24 (0, 0))
  have Op_0 := Lib.hid (((One.new w (.slice p hs.length cap) 24 (w.heap.size) (by simp)).alloc (.cells #[.slice q ks.length cap'] 24 (0, 0))))
  have Oq_0 := Lib.hid ((One.new (w.alloc (.cells #[.slice p hs.length cap] 24 (0, 0))) (.slice q ks.length cap') 24 (w.heap.size + 1) (by simp)))
  have Pp_0 := Lib.hid (hp.mono b0)
  have Pq_0 := Lib.hid (hq.mono b0)
  have Tpt_0 := Lib.hid (hpt.mono b0)
  have HCpt := Lib.hid hcpt
  have HLpt := Lib.hid hlcpt
  have B0 := Lib.hid b0
  clear hp hq hpt b0
  clear hcpt hlcpt
  go_enter Try.func7, Try.ntmps7
  go_wp2_with fail
  refine (cmRebase_any p q hs ks _ cap _ cap' _ rfl rfl Pp_0.out Pq_0.out hlp hlq).mono ?_
  rintro e w1 ⟨pa, cpa, rfl, hpa, -, -, hb⟩
  have a1 := up_alloc (up_alloc (Below.refl w1.heap.size w1) (.cells #[.slice pa (Tp.rA hs ks).length cpa] 24 (0, 0))) (.cells #[.int .i64 (Tp.rC hs ks), .int .i64 (Tp.rI hs ks)] 26 (0, 0))
  have A_1 := Lib.hid (((One.new w1 (.slice pa (Tp.rA hs ks).length cpa) 24 (w1.heap.size) (by simp)).alloc (.cells #[.int .i64 (Tp.rC hs ks), .int .i64 (Tp.rI hs ks)] 26 (0, 0))))
  have F9_1 := Lib.hid ((by have := Flt.new (w1.alloc (.cells #[.slice pa (Tp.rA hs ks).length cpa] 24 (0, 0))) (Tp.rC hs ks) (Tp.rI hs ks) 26; simpa using this : Flt ((w1.alloc (.cells #[.slice pa (Tp.rA hs ks).length cpa] 24 (0, 0))).alloc (.cells #[.int .i64 (Tp.rC hs ks), .int .i64 (Tp.rI hs ks)] 26 (0, 0))) (w1.heap.size + 1) (Tp.rC hs ks) (Tp.rI hs ks)))
  have Op_1 := Lib.hid ((Op_0.out.up hb).up a1)
  have Oq_1 := Lib.hid ((Oq_0.out.up hb).up a1)
  have Pp_1 := Lib.hid ((Pp_0.out.mono hb).mono a1)
  have Pq_1 := Lib.hid ((Pq_0.out.mono hb).mono a1)
  have Tpt_1 := Lib.hid ((Tpt_0.out.mono hb).mono a1)
  have Ppa_1 := Lib.hid ((hpa).mono a1)
  have B1 := Lib.hid (up_call (up_call B0.out hb) a1)
  clear hb a1 Op_0 Oq_0 Pp_0 Pq_0 Tpt_0 B0 
  clear hpa
  have x1_0 := Op_1.out.c
  have x1_1 := Oq_1.out.c
  go_wp2_with fail
  refine (cmRebase_any q p ks hs _ cap' _ cap _ rfl rfl Pq_1.out Pp_1.out hlq hlp).mono ?_
  rintro e w2 ⟨pb, cpb, rfl, hpb, -, -, hb⟩
  have a2 := up_alloc (up_alloc (Below.refl w2.heap.size w2) (.cells #[.slice pb (Tp.rA ks hs).length cpb] 24 (0, 0))) (.cells #[.int .i64 (Tp.rC ks hs), .int .i64 (Tp.rI ks hs)] 26 (0, 0))
  have Bb_2 := Lib.hid (((One.new w2 (.slice pb (Tp.rA ks hs).length cpb) 24 (w2.heap.size) (by simp)).alloc (.cells #[.int .i64 (Tp.rC ks hs), .int .i64 (Tp.rI ks hs)] 26 (0, 0))))
  have F12_2 := Lib.hid ((by have := Flt.new (w2.alloc (.cells #[.slice pb (Tp.rA ks hs).length cpb] 24 (0, 0))) (Tp.rC ks hs) (Tp.rI ks hs) 26; simpa using this : Flt ((w2.alloc (.cells #[.slice pb (Tp.rA ks hs).length cpb] 24 (0, 0))).alloc (.cells #[.int .i64 (Tp.rC ks hs), .int .i64 (Tp.rI ks hs)] 26 (0, 0))) (w2.heap.size + 1) (Tp.rC ks hs) (Tp.rI ks hs)))
  have Op_2 := Lib.hid ((Op_1.out.up hb).up a2)
  have Oq_2 := Lib.hid ((Oq_1.out.up hb).up a2)
  have Pp_2 := Lib.hid ((Pp_1.out.mono hb).mono a2)
  have Pq_2 := Lib.hid ((Pq_1.out.mono hb).mono a2)
  have Tpt_2 := Lib.hid ((Tpt_1.out.mono hb).mono a2)
  have Ppa_2 := Lib.hid ((Ppa_1.out.mono hb).mono a2)
  have A_2 := Lib.hid ((A_1.out.up hb).up a2)
  have F9_2 := Lib.hid ((F9_1.out.up hb).up a2)
  have Ppb_2 := Lib.hid ((hpb).mono a2)
  have B2 := Lib.hid (up_call (up_call B1.out hb) a2)
  clear hb a2 Op_1 Oq_1 Pp_1 Pq_1 Tpt_1 Ppa_1 A_1 F9_1 B1 x1_0 x1_1
  clear hpb
  by_cases k49 : Tp.rC hs ks = 0
  case neg =>
    have g : (Tp.rC hs ks != 0) = true := by simpa using k49
    have x2_0 := F9_2.out.c0
    go_wp2_with fail
    refine (exchanged_any _).mono ?_
    rintro e wz ⟨rfl, hbz⟩
    have BZ := Lib.hid (up_call B2.out hbz)
    clear hbz
    go_wp2_with fail
    go_ret
    exact ⟨rfl, BZ.out⟩
  have gk49 : (Tp.rC hs ks != 0) = false := by simpa using k49
  have Hk49 := Lib.hid k49
  clear k49
  by_cases k64 : Tp.rC ks hs = 0
  case neg =>
    have g : (Tp.rC ks hs != 0) = true := by simpa using k64
    have x2_0 := F9_2.out.c0
    go_wp2_with fail
    refine (exchanged_any _).mono ?_
    rintro e wz ⟨rfl, hbz⟩
    have BZ := Lib.hid (up_call B2.out hbz)
    clear hbz
    go_wp2_with fail
    go_ret
    exact ⟨rfl, BZ.out⟩
  have gk64 : (Tp.rC ks hs != 0) = false := by simpa using k64
  have Hk64 := Lib.hid k64
  clear k64
  rw [Tp.r_symm Hk49.out Hk64.out]
  have g5 : (Tp.rB hs ks != Tp.rB hs ks) = false := by simp
  have x2_0 := F9_2.out.c0
  have x2_1 := Oq_2.out.c
  go_wp2_with fail
  refine (tpApply_any q pt ks t _ cap' _ ct _ rfl rfl Pq_2.out hlq Tpt_2.out HCpt.out HLpt.out).mono ?_
  rintro e w3 ⟨vps, rfl, own, hb⟩
  obtain ⟨ps, cps, rfl, hcps, hlps⟩ := ownS_shape own
  have a3 := up_alloc (Below.refl w3.heap.size w3) (.cells #[.int .i64 (Tp.aC ks t), .int .i64 (Tp.aI ks t)] 26 (0, 0))
  have F14_3 := Lib.hid ((by have := Flt.new w3 (Tp.aC ks t) (Tp.aI ks t) 26; simpa using this : Flt (w3.alloc (.cells #[.int .i64 (Tp.aC ks t), .int .i64 (Tp.aI ks t)] 26 (0, 0))) (w3.heap.size) (Tp.aC ks t) (Tp.aI ks t)))
  have Op_3 := Lib.hid ((Op_2.out.up hb).up a3)
  have Oq_3 := Lib.hid ((Oq_2.out.up hb).up a3)
  have Pp_3 := Lib.hid ((Pp_2.out.mono hb).mono a3)
  have Pq_3 := Lib.hid ((Pq_2.out.mono hb).mono a3)
  have Tpt_3 := Lib.hid ((Tpt_2.out.mono hb).mono a3)
  have Ppa_3 := Lib.hid ((Ppa_2.out.mono hb).mono a3)
  have A_3 := Lib.hid ((A_2.out.up hb).up a3)
  have F9_3 := Lib.hid ((F9_2.out.up hb).up a3)
  have Ppb_3 := Lib.hid ((Ppb_2.out.mono hb).mono a3)
  have Bb_3 := Lib.hid ((Bb_2.out.up hb).up a3)
  have F12_3 := Lib.hid ((F12_2.out.up hb).up a3)
  have Tps_3 := Lib.hid ((ownS_sts own (aT_small ks t) (by have := aT_len ks t; omega)).mono a3)
  have B3 := Lib.hid (up_call (up_call B2.out hb) a3)
  clear hb a3 Op_2 Oq_2 Pp_2 Pq_2 Tpt_2 Ppa_2 A_2 F9_2 Ppb_2 Bb_2 F12_2 B2 x2_0 x2_1
  have HCps := Lib.hid hcps
  have HLps := Lib.hid hlps
  clear own hcps hlps
  have x3_0 := A_3.out.c
  go_wp2_with fail
  refine (tpApply_any pa ps (Tp.rA hs ks) (Tp.aT ks t) _ cpa _ cps _ rfl rfl Ppa_3.out (by have := rA_len hs ks; omega) Tps_3.out HCps.out HLps.out).mono ?_
  rintro e w4 ⟨vpr, rfl, own, hb⟩
  obtain ⟨pr, cpr, rfl, hcpr, hlpr⟩ := ownS_shape own
  have a4 := up_alloc (Below.refl w4.heap.size w4) (.cells #[.int .i64 (Tp.aC (Tp.rA hs ks) (Tp.aT ks t)), .int .i64 (Tp.aI (Tp.rA hs ks) (Tp.aT ks t))] 26 (0, 0))
  have F16_4 := Lib.hid ((by have := Flt.new w4 (Tp.aC (Tp.rA hs ks) (Tp.aT ks t)) (Tp.aI (Tp.rA hs ks) (Tp.aT ks t)) 26; simpa using this : Flt (w4.alloc (.cells #[.int .i64 (Tp.aC (Tp.rA hs ks) (Tp.aT ks t)), .int .i64 (Tp.aI (Tp.rA hs ks) (Tp.aT ks t))] 26 (0, 0))) (w4.heap.size) (Tp.aC (Tp.rA hs ks) (Tp.aT ks t)) (Tp.aI (Tp.rA hs ks) (Tp.aT ks t))))
  have Op_4 := Lib.hid ((Op_3.out.up hb).up a4)
  have Oq_4 := Lib.hid ((Oq_3.out.up hb).up a4)
  have Pp_4 := Lib.hid ((Pp_3.out.mono hb).mono a4)
  have Pq_4 := Lib.hid ((Pq_3.out.mono hb).mono a4)
  have Tpt_4 := Lib.hid ((Tpt_3.out.mono hb).mono a4)
  have Ppa_4 := Lib.hid ((Ppa_3.out.mono hb).mono a4)
  have A_4 := Lib.hid ((A_3.out.up hb).up a4)
  have F9_4 := Lib.hid ((F9_3.out.up hb).up a4)
  have Ppb_4 := Lib.hid ((Ppb_3.out.mono hb).mono a4)
  have Bb_4 := Lib.hid ((Bb_3.out.up hb).up a4)
  have F12_4 := Lib.hid ((F12_3.out.up hb).up a4)
  have Tps_4 := Lib.hid ((Tps_3.out.mono hb).mono a4)
  have F14_4 := Lib.hid ((F14_3.out.up hb).up a4)
  have Tpr_4 := Lib.hid ((ownS_sts own (aT_small (Tp.rA hs ks) (Tp.aT ks t)) (by have := aT_len (Tp.rA hs ks) (Tp.aT ks t); omega)).mono a4)
  have B4 := Lib.hid (up_call (up_call B3.out hb) a4)
  clear hb a4 Op_3 Oq_3 Pp_3 Pq_3 Tpt_3 Ppa_3 A_3 F9_3 Ppb_3 Bb_3 F12_3 Tps_3 F14_3 B3 x3_0
  have HCpr := Lib.hid hcpr
  have HLpr := Lib.hid hlpr
  clear own hcpr hlpr
  clear Ppa_4 A_4 F9_4 F12_4 Tps_4
  have x4_0 := Op_4.out.c
  go_wp2_with fail
  refine (tpApply_any p pt hs t _ cap _ ct _ rfl rfl Pp_4.out hlp Tpt_4.out HCpt.out HLpt.out).mono ?_
  rintro e w5 ⟨vpu, rfl, own, hb⟩
  obtain ⟨pu, cpu, rfl, hcpu, hlpu⟩ := ownS_shape own
  have a5 := up_alloc (Below.refl w5.heap.size w5) (.cells #[.int .i64 (Tp.aC hs t), .int .i64 (Tp.aI hs t)] 26 (0, 0))
  have F18_5 := Lib.hid ((by have := Flt.new w5 (Tp.aC hs t) (Tp.aI hs t) 26; simpa using this : Flt (w5.alloc (.cells #[.int .i64 (Tp.aC hs t), .int .i64 (Tp.aI hs t)] 26 (0, 0))) (w5.heap.size) (Tp.aC hs t) (Tp.aI hs t)))
  have Op_5 := Lib.hid ((Op_4.out.up hb).up a5)
  have Oq_5 := Lib.hid ((Oq_4.out.up hb).up a5)
  have Pp_5 := Lib.hid ((Pp_4.out.mono hb).mono a5)
  have Pq_5 := Lib.hid ((Pq_4.out.mono hb).mono a5)
  have Tpt_5 := Lib.hid ((Tpt_4.out.mono hb).mono a5)
  have Ppb_5 := Lib.hid ((Ppb_4.out.mono hb).mono a5)
  have Bb_5 := Lib.hid ((Bb_4.out.up hb).up a5)
  have F14_5 := Lib.hid ((F14_4.out.up hb).up a5)
  have Tpr_5 := Lib.hid ((Tpr_4.out.mono hb).mono a5)
  have F16_5 := Lib.hid ((F16_4.out.up hb).up a5)
  have Tpu_5 := Lib.hid ((ownS_sts own (aT_small hs t) (by have := aT_len hs t; omega)).mono a5)
  have B5 := Lib.hid (up_call (up_call B4.out hb) a5)
  clear hb a5 Op_4 Oq_4 Pp_4 Pq_4 Tpt_4 Ppb_4 Bb_4 F14_4 Tpr_4 F16_4 B4 x4_0
  have HCpu := Lib.hid hcpu
  have HLpu := Lib.hid hlpu
  clear own hcpu hlpu
  clear Op_5 Oq_5 Pp_5 Pq_5 Tpt_5
  have x5_0 := Bb_5.out.c
  go_wp2_with fail
  refine (tpApply_any pb pu (Tp.rA ks hs) (Tp.aT hs t) _ cpb _ cpu _ rfl rfl Ppb_5.out (by have := rA_len ks hs; omega) Tpu_5.out HCpu.out HLpu.out).mono ?_
  rintro e w6 ⟨vpv, rfl, own, hb⟩
  obtain ⟨pv, cpv, rfl, hcpv, hlpv⟩ := ownS_shape own
  have a6 := up_alloc (Below.refl w6.heap.size w6) (.cells #[.int .i64 (Tp.aC (Tp.rA ks hs) (Tp.aT hs t)), .int .i64 (Tp.aI (Tp.rA ks hs) (Tp.aT hs t))] 26 (0, 0))
  have F20_6 := Lib.hid ((by have := Flt.new w6 (Tp.aC (Tp.rA ks hs) (Tp.aT hs t)) (Tp.aI (Tp.rA ks hs) (Tp.aT hs t)) 26; simpa using this : Flt (w6.alloc (.cells #[.int .i64 (Tp.aC (Tp.rA ks hs) (Tp.aT hs t)), .int .i64 (Tp.aI (Tp.rA ks hs) (Tp.aT hs t))] 26 (0, 0))) (w6.heap.size) (Tp.aC (Tp.rA ks hs) (Tp.aT hs t)) (Tp.aI (Tp.rA ks hs) (Tp.aT hs t))))
  have Ppb_6 := Lib.hid ((Ppb_5.out.mono hb).mono a6)
  have Bb_6 := Lib.hid ((Bb_5.out.up hb).up a6)
  have F14_6 := Lib.hid ((F14_5.out.up hb).up a6)
  have Tpr_6 := Lib.hid ((Tpr_5.out.mono hb).mono a6)
  have F16_6 := Lib.hid ((F16_5.out.up hb).up a6)
  have Tpu_6 := Lib.hid ((Tpu_5.out.mono hb).mono a6)
  have F18_6 := Lib.hid ((F18_5.out.up hb).up a6)
  have Tpv_6 := Lib.hid ((ownS_sts own (aT_small (Tp.rA ks hs) (Tp.aT hs t)) (by have := aT_len (Tp.rA ks hs) (Tp.aT hs t); omega)).mono a6)
  have B6 := Lib.hid (up_call (up_call B5.out hb) a6)
  clear hb a6 Ppb_5 Bb_5 F14_5 Tpr_5 F16_5 Tpu_5 F18_5 B5 x5_0
  have HCpv := Lib.hid hcpv
  have HLpv := Lib.hid hlpv
  clear own hcpv hlpv
  clear Ppb_6 Bb_6 Tpu_6
  cases hB : Tp.rB hs ks
  case false =>
    have x6_0 := F14_6.out.c0
    have x6_1 := F16_6.out.c0
    have x6_2 := F18_6.out.c0
    go_wp2_with fail
    refine (exchanged_any _).mono ?_
    rintro e wz ⟨rfl, hbz⟩
    have BZ := Lib.hid (up_call B6.out hbz)
    clear hbz
    go_wp2_with fail
    go_ret
    exact ⟨rfl, BZ.out⟩
  have HBX := Lib.hid hB
  clear hB
  by_cases k193 : Tp.aC ks t = 0
  case neg =>
    have g : (Tp.aC ks t != 0) = true := by simpa using k193
    have x6_0 := F14_6.out.c0
    have x6_1 := F16_6.out.c0
    have x6_2 := F18_6.out.c0
    go_wp2_with fail
    refine (exchanged_any _).mono ?_
    rintro e wz ⟨rfl, hbz⟩
    have BZ := Lib.hid (up_call B6.out hbz)
    clear hbz
    go_wp2_with fail
    go_ret
    exact ⟨rfl, BZ.out⟩
  have gk193 : (Tp.aC ks t != 0) = false := by simpa using k193
  have Hk193 := Lib.hid k193
  clear k193
  by_cases k210 : Tp.aC hs t = 0
  case neg =>
    have g : (Tp.aC hs t != 0) = true := by simpa using k210
    have x6_0 := F14_6.out.c0
    have x6_1 := F16_6.out.c0
    have x6_2 := F18_6.out.c0
    go_wp2_with fail
    refine (exchanged_any _).mono ?_
    rintro e wz ⟨rfl, hbz⟩
    have BZ := Lib.hid (up_call B6.out hbz)
    clear hbz
    go_wp2_with fail
    go_ret
    exact ⟨rfl, BZ.out⟩
  have gk210 : (Tp.aC hs t != 0) = false := by simpa using k210
  have Hk210 := Lib.hid k210
  clear k210
  by_cases k227 : Tp.aC (Tp.rA hs ks) (Tp.aT ks t) = 10
  case pos =>
    have g : (Tp.aC (Tp.rA hs ks) (Tp.aT ks t) == 10) = true := by simpa using k227
    clear k227
    have x6_0 := F14_6.out.c0
    have x6_1 := F16_6.out.c0
    have x6_2 := F18_6.out.c0
    go_wp2_with fail
    refine (exchanged_any _).mono ?_
    rintro e wz ⟨rfl, hbz⟩
    have BZ := Lib.hid (up_call B6.out hbz)
    clear hbz
    go_wp2_with fail
    go_ret
    exact ⟨rfl, BZ.out⟩
  have gk227 : (Tp.aC (Tp.rA hs ks) (Tp.aT ks t) == 10) = false := by simpa using k227
  have Hk227 := Lib.hid k227
  clear k227
  by_cases k245 : Tp.aC (Tp.rA ks hs) (Tp.aT hs t) = 10
  case pos =>
    have g : (Tp.aC (Tp.rA ks hs) (Tp.aT hs t) == 10) = true := by simpa using k245
    clear k245
    have x6_0 := F14_6.out.c0
    have x6_1 := F16_6.out.c0
    have x6_2 := F18_6.out.c0
    go_wp2_with fail
    refine (exchanged_any _).mono ?_
    rintro e wz ⟨rfl, hbz⟩
    have BZ := Lib.hid (up_call B6.out hbz)
    clear hbz
    go_wp2_with fail
    go_ret
    exact ⟨rfl, BZ.out⟩
  have gk245 : (Tp.aC (Tp.rA ks hs) (Tp.aT hs t) == 10) = false := by simpa using k245
  have Hk245 := Lib.hid k245
  clear k245
  have EE := Lib.hid (Tp.r_effect HBX.out Hk49.out Hk64.out Hk193.out Hk210.out Hk227.out Hk245.out)
  have i0 : (Tp.aC (Tp.rA hs ks) (Tp.aT ks t) == 0) = true := by simpa using EE.out.1
  have j0 : (Tp.aC (Tp.rA ks hs) (Tp.aT hs t) == 0) = true := by simpa using EE.out.2.1
  have x6_0 := F14_6.out.c0
  have x6_1 := F16_6.out.c0
  have x6_2 := F18_6.out.c0
  go_wp2_with fail
  refine (equal_any pr pv (Tp.aT (Tp.rA hs ks) (Tp.aT ks t)) (Tp.aT (Tp.rA ks hs) (Tp.aT hs t)) _ _ cpr cpv _ rfl rfl Tpr_6.out Tpv_6.out).mono ?_
  rintro e wy ⟨rfl, ny, rfl⟩
  rw [eqS_true (EE.out.2.2)]
  have BY := Lib.hid (below_drewN B6.out ny)
  clear F14_6 Tpr_6 F16_6 F18_6 Tpv_6 F20_6 x6_0 x6_1 x6_2
  go_wp2_with fail
  refine (exchanged_any _).mono ?_
  rintro e wz ⟨rfl, hbz⟩
  have BZ := Lib.hid (up_call BY.out hbz)
  clear hbz
  go_wp2_with fail
  go_ret
  exact ⟨rfl, BZ.out⟩
end Go.Proofs.Ytolpbeemeignaaa
