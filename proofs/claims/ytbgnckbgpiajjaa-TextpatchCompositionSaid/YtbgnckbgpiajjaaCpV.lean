/-
  The law TextpatchComposition, walked.
-/
import Derived.Test.YtbgnckbgpiajjaaCpU
namespace Go.Proofs.Ytbgnckbgpiajjaa
open Go.RowKit
set_option maxRecDepth 4000

set_option maxRecDepth 100000 in
set_option maxHeartbeats 8000000 in
theorem composition_walk (p : Option Addr) (hs : List Tp.H) (cap : Nat) (q : Option Addr) (ks : List Tp.H) (cap' : Nat) (pt : Option Addr) (t : List ByteArray) (ct : Nat) (w : World) (hp : Ptc w p hs) (_hcp : p = none → cap = 0) (hlp : hs.length ≤ 2513169434845) (_hlcp : hs.length ≤ cap) (_hfp : ∀ k ∈ hs, fits63 k.at') (hq : Ptc w q ks) (_hcq : q = none → cap' = 0) (hlq : ks.length ≤ 2513169434845) (_hlcq : ks.length ≤ cap') (_hfq : ∀ k ∈ ks, fits63 k.at') (hpt : Sts w pt t) (hcpt : pt = none → ct = 0) (_hlpt : t.length ≤ 8796093021952) (hlcpt : t.length ≤ ct) :
    Calls Try.prog 10 #[.agg #[.slice p hs.length cap], .agg #[.slice q ks.length cap'], .slice pt t.length ct] w (TPost w) := by
  have b0 := up_alloc (up_alloc (Below.refl w.heap.size w) (.cells #[.slice p hs.length cap] 41 (0, 0))) (.cells #[.slice q ks.length cap'] 41 (0, 0))
  have Op_0 := Lib.hid (((One.new w (.slice p hs.length cap) 41 (w.heap.size) (by simp)).alloc (.cells #[.slice q ks.length cap'] 41 (0, 0))))
  have Oq_0 := Lib.hid ((One.new (w.alloc (.cells #[.slice p hs.length cap] 41 (0, 0))) (.slice q ks.length cap') 41 (w.heap.size + 1) (by simp)))
  have Pp_0 := Lib.hid (hp.mono b0)
  have Pq_0 := Lib.hid (hq.mono b0)
  have Tpt_0 := Lib.hid (hpt.mono b0)
  have HCpt := Lib.hid hcpt
  have HLpt := Lib.hid hlcpt
  have B0 := Lib.hid b0
  clear hp hq hpt b0
  clear hcpt hlcpt
  go_enter Try.func10, Try.ntmps10
  have x0_0 := Op_0.out.c
  go_wp2_with fail
  refine (tpApply_any p pt hs t _ cap _ ct _ rfl rfl Pp_0.out hlp Tpt_0.out HCpt.out HLpt.out).mono ?_
  rintro e w1 ⟨vps, rfl, own, hb⟩
  obtain ⟨ps, cps, rfl, hcps, hlps⟩ := ownS_shape own
  have a1 := up_alloc (Below.refl w1.heap.size w1) (.cells #[.int .i64 (Tp.aC hs t), .int .i64 (Tp.aI hs t)] 25 (0, 0))
  have F8_1 := Lib.hid ((by have := Flt.new w1 (Tp.aC hs t) (Tp.aI hs t) 25; simpa using this : Flt (w1.alloc (.cells #[.int .i64 (Tp.aC hs t), .int .i64 (Tp.aI hs t)] 25 (0, 0))) (w1.heap.size) (Tp.aC hs t) (Tp.aI hs t)))
  have Op_1 := Lib.hid ((Op_0.out.up hb).up a1)
  have Oq_1 := Lib.hid ((Oq_0.out.up hb).up a1)
  have Pp_1 := Lib.hid ((Pp_0.out.mono hb).mono a1)
  have Pq_1 := Lib.hid ((Pq_0.out.mono hb).mono a1)
  have Tpt_1 := Lib.hid ((Tpt_0.out.mono hb).mono a1)
  have Tps_1 := Lib.hid ((ownS_sts own (cT_small hs t) (by have := cT_len hs t; omega)).mono a1)
  have B1 := Lib.hid (up_call (up_call B0.out hb) a1)
  clear hb a1 Op_0 Oq_0 Pp_0 Pq_0 Tpt_0 B0 x0_0
  have HCps := Lib.hid hcps
  have HLps := Lib.hid hlps
  clear own hcps hlps
  have x1_0 := Oq_1.out.c
  go_wp2_with fail
  refine (tpApply_any q ps ks (Tp.aT hs t) _ cap' _ cps _ rfl rfl Pq_1.out hlq Tps_1.out HCps.out HLps.out).mono ?_
  rintro e w2 ⟨vpr, rfl, own, hb⟩
  obtain ⟨pr, cpr, rfl, hcpr, hlpr⟩ := ownS_shape own
  have a2 := up_alloc (Below.refl w2.heap.size w2) (.cells #[.int .i64 (Tp.aC ks (Tp.aT hs t)), .int .i64 (Tp.aI ks (Tp.aT hs t))] 25 (0, 0))
  have F10_2 := Lib.hid ((by have := Flt.new w2 (Tp.aC ks (Tp.aT hs t)) (Tp.aI ks (Tp.aT hs t)) 25; simpa using this : Flt (w2.alloc (.cells #[.int .i64 (Tp.aC ks (Tp.aT hs t)), .int .i64 (Tp.aI ks (Tp.aT hs t))] 25 (0, 0))) (w2.heap.size) (Tp.aC ks (Tp.aT hs t)) (Tp.aI ks (Tp.aT hs t))))
  have Op_2 := Lib.hid ((Op_1.out.up hb).up a2)
  have Oq_2 := Lib.hid ((Oq_1.out.up hb).up a2)
  have Pp_2 := Lib.hid ((Pp_1.out.mono hb).mono a2)
  have Pq_2 := Lib.hid ((Pq_1.out.mono hb).mono a2)
  have Tpt_2 := Lib.hid ((Tpt_1.out.mono hb).mono a2)
  have Tps_2 := Lib.hid ((Tps_1.out.mono hb).mono a2)
  have F8_2 := Lib.hid ((F8_1.out.up hb).up a2)
  have Tpr_2 := Lib.hid ((ownS_sts own (cT_small ks (Tp.aT hs t)) (by have := cT_len ks (Tp.aT hs t); omega)).mono a2)
  have B2 := Lib.hid (up_call (up_call B1.out hb) a2)
  clear hb a2 Op_1 Oq_1 Pp_1 Pq_1 Tpt_1 Tps_1 F8_1 B1 x1_0
  have HCpr := Lib.hid hcpr
  have HLpr := Lib.hid hlpr
  clear own hcpr hlpr
  have x2_0 := Op_2.out.c
  have x2_1 := Oq_2.out.c
  go_wp2_with fail
  refine (tpCompose_any p q hs ks _ cap _ cap' _ rfl rfl Pp_2.out Pq_2.out hlp hlq).mono ?_
  rintro e w3 ⟨px, cpx, rfl, hpx, -, -, hb⟩
  have a3 := up_alloc (up_alloc (Below.refl w3.heap.size w3) (.cells #[.slice px (coT hs ks).length cpx] 41 (0, 0))) (.cells #[.int .i64 (coC hs ks), .int .i64 (coI hs ks)] 25 (0, 0))
  have X_3 := Lib.hid (((One.new w3 (.slice px (coT hs ks).length cpx) 41 (w3.heap.size) (by simp)).alloc (.cells #[.int .i64 (coC hs ks), .int .i64 (coI hs ks)] 25 (0, 0))))
  have F12_3 := Lib.hid ((by have := Flt.new (w3.alloc (.cells #[.slice px (coT hs ks).length cpx] 41 (0, 0))) (coC hs ks) (coI hs ks) 25; simpa using this : Flt ((w3.alloc (.cells #[.slice px (coT hs ks).length cpx] 41 (0, 0))).alloc (.cells #[.int .i64 (coC hs ks), .int .i64 (coI hs ks)] 25 (0, 0))) (w3.heap.size + 1) (coC hs ks) (coI hs ks)))
  have Op_3 := Lib.hid ((Op_2.out.up hb).up a3)
  have Oq_3 := Lib.hid ((Oq_2.out.up hb).up a3)
  have Pp_3 := Lib.hid ((Pp_2.out.mono hb).mono a3)
  have Pq_3 := Lib.hid ((Pq_2.out.mono hb).mono a3)
  have Tpt_3 := Lib.hid ((Tpt_2.out.mono hb).mono a3)
  have Tps_3 := Lib.hid ((Tps_2.out.mono hb).mono a3)
  have F8_3 := Lib.hid ((F8_2.out.up hb).up a3)
  have Tpr_3 := Lib.hid ((Tpr_2.out.mono hb).mono a3)
  have F10_3 := Lib.hid ((F10_2.out.up hb).up a3)
  have Ppx_3 := Lib.hid ((hpx.self).mono a3)
  have B3 := Lib.hid (up_call (up_call B2.out hb) a3)
  clear hb a3 Op_2 Oq_2 Pp_2 Pq_2 Tpt_2 Tps_2 F8_2 Tpr_2 F10_2 B2 x2_0 x2_1
  clear hpx
  clear Op_3 Oq_3 Pp_3 Pq_3 Tps_3
  by_cases k74 : Tp.aC hs t = 0
  case neg =>
    have g : (Tp.aC hs t != 0) = true := by simpa using k74
    have x3_0 := F8_3.out.c0
    have x3_1 := F10_3.out.c0
    go_wp2_with fail
    refine (replaced_any _).mono ?_
    rintro e wz ⟨rfl, hbz⟩
    have BZ := Lib.hid (up_call B3.out hbz)
    clear hbz
    go_wp2_with fail
    go_ret
    exact ⟨rfl, BZ.out⟩
  have gk74 : (Tp.aC hs t != 0) = false := by simpa using k74
  have Hk74 := Lib.hid k74
  clear k74
  by_cases k90 : Tp.aC ks (Tp.aT hs t) = 0
  case neg =>
    have g : (Tp.aC ks (Tp.aT hs t) != 0) = true := by simpa using k90
    have x3_0 := F8_3.out.c0
    have x3_1 := F10_3.out.c0
    go_wp2_with fail
    refine (replaced_any _).mono ?_
    rintro e wz ⟨rfl, hbz⟩
    have BZ := Lib.hid (up_call B3.out hbz)
    clear hbz
    go_wp2_with fail
    go_ret
    exact ⟨rfl, BZ.out⟩
  have gk90 : (Tp.aC ks (Tp.aT hs t) != 0) = false := by simpa using k90
  have Hk90 := Lib.hid k90
  clear k90
  have EE := Lib.hid (co_comp Hk74.out Hk90.out)
  have gc : (coC hs ks != 0) = false := by simpa using EE.out.1
  have x3_0 := F8_3.out.c0
  have x3_1 := F10_3.out.c0
  have x3_2 := F12_3.out.c0
  have x3_3 := X_3.out.c
  go_wp2_with fail
  refine (tpApply_any px pt (coT hs ks) t _ cpx _ ct _ rfl rfl Ppx_3.out (by have := coT_len hs ks; omega) Tpt_3.out HCpt.out HLpt.out).mono ?_
  rintro e w4 ⟨vpu, rfl, own, hb⟩
  obtain ⟨pu, cpu, rfl, hcpu, hlpu⟩ := ownS_shape own
  have a4 := up_alloc (Below.refl w4.heap.size w4) (.cells #[.int .i64 (Tp.aC (coT hs ks) t), .int .i64 (Tp.aI (coT hs ks) t)] 25 (0, 0))
  have F14_4 := Lib.hid ((by have := Flt.new w4 (Tp.aC (coT hs ks) t) (Tp.aI (coT hs ks) t) 25; simpa using this : Flt (w4.alloc (.cells #[.int .i64 (Tp.aC (coT hs ks) t), .int .i64 (Tp.aI (coT hs ks) t)] 25 (0, 0))) (w4.heap.size) (Tp.aC (coT hs ks) t) (Tp.aI (coT hs ks) t)))
  have Tpt_4 := Lib.hid ((Tpt_3.out.mono hb).mono a4)
  have F8_4 := Lib.hid ((F8_3.out.up hb).up a4)
  have Tpr_4 := Lib.hid ((Tpr_3.out.mono hb).mono a4)
  have F10_4 := Lib.hid ((F10_3.out.up hb).up a4)
  have Ppx_4 := Lib.hid ((Ppx_3.out.mono hb).mono a4)
  have X_4 := Lib.hid ((X_3.out.up hb).up a4)
  have F12_4 := Lib.hid ((F12_3.out.up hb).up a4)
  have Tpu_4 := Lib.hid ((ownS_sts own (cT_small (coT hs ks) t) (by have := cT_len (coT hs ks) t; omega)).mono a4)
  have B4 := Lib.hid (up_call (up_call B3.out hb) a4)
  clear hb a4 Tpt_3 F8_3 Tpr_3 F10_3 Ppx_3 X_3 F12_3 B3 x3_0 x3_1 x3_2 x3_3
  have HCpu := Lib.hid hcpu
  have HLpu := Lib.hid hlpu
  clear own hcpu hlpu
  clear Tpt_4 F8_4 F10_4 Ppx_4 X_4 F12_4
  have i0 : (Tp.aC (coT hs ks) t == 0) = true := by simpa using EE.out.2.2.1
  have x4_0 := F14_4.out.c0
  go_wp2_with fail
  refine (equal_any pu pr (Tp.aT (coT hs ks) t) (Tp.aT ks (Tp.aT hs t)) _ _ cpu cpr _ rfl rfl Tpu_4.out Tpr_4.out).mono ?_
  rintro e wy ⟨rfl, ny, rfl⟩
  rw [eqS_true (EE.out.2.2.2)]
  have BY := Lib.hid (below_drewN B4.out ny)
  clear Tpr_4 Tpu_4 F14_4 x4_0
  go_wp2_with fail
  refine (replaced_any _).mono ?_
  rintro e wz ⟨rfl, hbz⟩
  have BZ := Lib.hid (up_call BY.out hbz)
  clear hbz
  go_wp2_with fail
  go_ret
  exact ⟨rfl, BZ.out⟩
end Go.Proofs.Ytbgnckbgpiajjaa
