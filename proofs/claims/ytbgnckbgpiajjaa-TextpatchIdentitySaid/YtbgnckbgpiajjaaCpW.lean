/-
  The law TextpatchIdentity, walked.
-/
import Derived.Test.YtbgnckbgpiajjaaCpU
namespace Go.Proofs.Ytbgnckbgpiajjaa
open Go.RowKit
set_option maxRecDepth 4000

set_option maxRecDepth 100000 in
set_option maxHeartbeats 8000000 in
theorem identity_walk (p : Option Addr) (hs : List Tp.H) (cap : Nat) (pt : Option Addr) (t : List ByteArray) (ct : Nat) (w : World) (hp : Ptc w p hs) (_hcp : p = none → cap = 0) (hlp : hs.length ≤ 2513169434845) (_hlcp : hs.length ≤ cap) (_hfp : ∀ k ∈ hs, fits63 k.at') (hpt : Sts w pt t) (hcpt : pt = none → ct = 0) (_hlpt : t.length ≤ 8796093021952) (hlcpt : t.length ≤ ct) :
    Calls Try.prog 11 #[.agg #[.slice p hs.length cap], .slice pt t.length ct] w (TPost w) := by
  have b0 := up_alloc (Below.refl w.heap.size w) (.cells #[.slice p hs.length cap] 41 (0, 0))
  have Op_0 := Lib.hid ((One.new w (.slice p hs.length cap) 41 (w.heap.size) (by simp)))
  have Pp_0 := Lib.hid (hp.mono b0)
  have Tpt_0 := Lib.hid (hpt.mono b0)
  have HCpt := Lib.hid hcpt
  have HLpt := Lib.hid hlcpt
  have B0 := Lib.hid b0
  clear hp hpt b0
  clear hcpt hlcpt
  go_enter Try.func11, Try.ntmps11
  have x0_0 := Op_0.out.c
  go_wp2_with fail
  refine (tpValidate_any p hs _ cap _ rfl Pp_0.out hlp).mono ?_
  rintro e w1 ⟨rfl, hb⟩
  have Op_1 := Lib.hid (Op_0.out.up hb)
  have Pp_1 := Lib.hid (Pp_0.out.mono hb)
  have Tpt_1 := Lib.hid (Tpt_0.out.mono hb)
  have B1 := Lib.hid (up_call B0.out hb)
  clear hb  Op_0 Pp_0 Tpt_0 B0 x0_0
  have hfd := field0
  by_cases k22 : Tp.pC hs = 0
  case neg =>
    have g : (Tp.pC hs != 0) = true := by simpa using k22
    go_wp2_with fail
    refine (replaced_any _).mono ?_
    rintro e wz ⟨rfl, hbz⟩
    have BZ := Lib.hid (up_call B1.out hbz)
    clear hbz
    go_wp2_with fail
    go_ret
    exact ⟨rfl, BZ.out⟩
  have gk22 : (Tp.pC hs != 0) = false := by simpa using k22
  have Hk22 := Lib.hid k22
  clear k22
  have VP := Lib.hid (Tp.pC_zero.1 Hk22.out)
  have x1_0 := Op_1.out.c
  go_wp2_with fail
  refine (tpCompose_any p none hs [] _ cap 0 0 _ rfl rfl Pp_1.out (ptc_nil _) hlp (by simp)).mono ?_
  rintro e w2 ⟨px, cpx, rfl, hpx, -, -, hb⟩
  have a2 := up_alloc (up_alloc (Below.refl w2.heap.size w2) (.cells #[.slice px (coT hs []).length cpx] 41 (0, 0))) (.cells #[.int .i64 (coC hs []), .int .i64 (coI hs [])] 25 (0, 0))
  have X_2 := Lib.hid (((One.new w2 (.slice px (coT hs []).length cpx) 41 (w2.heap.size) (by simp)).alloc (.cells #[.int .i64 (coC hs []), .int .i64 (coI hs [])] 25 (0, 0))))
  have F6_2 := Lib.hid ((by have := Flt.new (w2.alloc (.cells #[.slice px (coT hs []).length cpx] 41 (0, 0))) (coC hs []) (coI hs []) 25; simpa using this : Flt ((w2.alloc (.cells #[.slice px (coT hs []).length cpx] 41 (0, 0))).alloc (.cells #[.int .i64 (coC hs []), .int .i64 (coI hs [])] 25 (0, 0))) (w2.heap.size + 1) (coC hs []) (coI hs [])))
  have Op_2 := Lib.hid ((Op_1.out.up hb).up a2)
  have Pp_2 := Lib.hid ((Pp_1.out.mono hb).mono a2)
  have Tpt_2 := Lib.hid ((Tpt_1.out.mono hb).mono a2)
  have Ppx_2 := Lib.hid ((hpx.self).mono a2)
  have B2 := Lib.hid (up_call (up_call B1.out hb) a2)
  clear hb a2 Op_1 Pp_1 Tpt_1 B1 x1_0
  clear hpx
  have x2_0 := Op_2.out.c
  go_wp2_with fail
  refine (tpCompose_any none p [] hs 0 0 _ cap _ rfl rfl (ptc_nil _) Pp_2.out (by simp) hlp).mono ?_
  rintro e w3 ⟨py, cpy, rfl, hpy, -, -, hb⟩
  have a3 := up_alloc (up_alloc (Below.refl w3.heap.size w3) (.cells #[.slice py (coT [] hs).length cpy] 41 (0, 0))) (.cells #[.int .i64 (coC [] hs), .int .i64 (coI [] hs)] 25 (0, 0))
  have Y_3 := Lib.hid (((One.new w3 (.slice py (coT [] hs).length cpy) 41 (w3.heap.size) (by simp)).alloc (.cells #[.int .i64 (coC [] hs), .int .i64 (coI [] hs)] 25 (0, 0))))
  have F8_3 := Lib.hid ((by have := Flt.new (w3.alloc (.cells #[.slice py (coT [] hs).length cpy] 41 (0, 0))) (coC [] hs) (coI [] hs) 25; simpa using this : Flt ((w3.alloc (.cells #[.slice py (coT [] hs).length cpy] 41 (0, 0))).alloc (.cells #[.int .i64 (coC [] hs), .int .i64 (coI [] hs)] 25 (0, 0))) (w3.heap.size + 1) (coC [] hs) (coI [] hs)))
  have Op_3 := Lib.hid ((Op_2.out.up hb).up a3)
  have Pp_3 := Lib.hid ((Pp_2.out.mono hb).mono a3)
  have Tpt_3 := Lib.hid ((Tpt_2.out.mono hb).mono a3)
  have Ppx_3 := Lib.hid ((Ppx_2.out.mono hb).mono a3)
  have X_3 := Lib.hid ((X_2.out.up hb).up a3)
  have F6_3 := Lib.hid ((F6_2.out.up hb).up a3)
  have Ppy_3 := Lib.hid ((hpy.self).mono a3)
  have B3 := Lib.hid (up_call (up_call B2.out hb) a3)
  clear hb a3 Op_2 Pp_2 Tpt_2 Ppx_2 X_2 F6_2 B2 x2_0
  clear hpy
  have gx : (coC hs [] != 0) = false := by simpa using (co_right VP.out).1
  have gy : (coC [] hs != 0) = false := by simpa using (co_left VP.out).1
  have LX := Lib.hid (coT_len hs [])
  have LY := Lib.hid (coT_len [] hs)
  have x3_0 := F6_3.out.c0
  have x3_1 := F8_3.out.c0
  have x3_2 := X_3.out.c
  have x3_3 := Op_3.out.c
  go_wp2_with fail
  refine (patchEq_any px p (coT hs []) hs _ _ cpx cap _ rfl rfl Ppx_3.out Pp_3.out (by have := LX.out; omega)).mono ?_
  rintro e w4 ⟨rfl, hb⟩
  rw [eqP_true ((co_right VP.out).2.2)]
  have Op_4 := Lib.hid (Op_3.out.up hb)
  have Pp_4 := Lib.hid (Pp_3.out.mono hb)
  have Tpt_4 := Lib.hid (Tpt_3.out.mono hb)
  have Ppx_4 := Lib.hid (Ppx_3.out.mono hb)
  have X_4 := Lib.hid (X_3.out.up hb)
  have F6_4 := Lib.hid (F6_3.out.up hb)
  have Ppy_4 := Lib.hid (Ppy_3.out.mono hb)
  have Y_4 := Lib.hid (Y_3.out.up hb)
  have F8_4 := Lib.hid (F8_3.out.up hb)
  have B4 := Lib.hid (up_call B3.out hb)
  clear hb  Op_3 Pp_3 Tpt_3 Ppx_3 X_3 F6_3 Ppy_3 Y_3 F8_3 B3 x3_0 x3_1 x3_2 x3_3
  have x4_0 := Y_4.out.c
  have x4_1 := Op_4.out.c
  go_wp2_with fail
  refine (patchEq_any py p (coT [] hs) hs _ _ cpy cap _ rfl rfl Ppy_4.out Pp_4.out (by have := LY.out; omega)).mono ?_
  rintro e w5 ⟨rfl, hb⟩
  rw [eqP_true ((co_left VP.out).2.2)]
  have Op_5 := Lib.hid (Op_4.out.up hb)
  have Pp_5 := Lib.hid (Pp_4.out.mono hb)
  have Tpt_5 := Lib.hid (Tpt_4.out.mono hb)
  have Ppx_5 := Lib.hid (Ppx_4.out.mono hb)
  have X_5 := Lib.hid (X_4.out.up hb)
  have F6_5 := Lib.hid (F6_4.out.up hb)
  have Ppy_5 := Lib.hid (Ppy_4.out.mono hb)
  have Y_5 := Lib.hid (Y_4.out.up hb)
  have F8_5 := Lib.hid (F8_4.out.up hb)
  have B5 := Lib.hid (up_call B4.out hb)
  clear hb  Op_4 Pp_4 Tpt_4 Ppx_4 X_4 F6_4 Ppy_4 Y_4 F8_4 B4 x4_0 x4_1
  clear Ppx_5 X_5 F6_5 Ppy_5 Y_5 F8_5
  have x5_0 := Op_5.out.c
  go_wp2_with fail
  refine (tpInvert_any p hs _ cap _ rfl Pp_5.out hlp).mono ?_
  rintro e w6 ⟨pq, cpq, rfl, hpq, -, -, hb⟩
  have a6 := up_alloc (up_alloc (Below.refl w6.heap.size w6) (.cells #[.slice pq (Tp.vT hs).length cpq] 41 (0, 0))) (.cells #[.int .i64 (Tp.vC' hs), .int .i64 (Tp.vI' hs)] 25 (0, 0))
  have Q_6 := Lib.hid (((One.new w6 (.slice pq (Tp.vT hs).length cpq) 41 (w6.heap.size) (by simp)).alloc (.cells #[.int .i64 (Tp.vC' hs), .int .i64 (Tp.vI' hs)] 25 (0, 0))))
  have F10_6 := Lib.hid ((by have := Flt.new (w6.alloc (.cells #[.slice pq (Tp.vT hs).length cpq] 41 (0, 0))) (Tp.vC' hs) (Tp.vI' hs) 25; simpa using this : Flt ((w6.alloc (.cells #[.slice pq (Tp.vT hs).length cpq] 41 (0, 0))).alloc (.cells #[.int .i64 (Tp.vC' hs), .int .i64 (Tp.vI' hs)] 25 (0, 0))) (w6.heap.size + 1) (Tp.vC' hs) (Tp.vI' hs)))
  have Op_6 := Lib.hid ((Op_5.out.up hb).up a6)
  have Pp_6 := Lib.hid ((Pp_5.out.mono hb).mono a6)
  have Tpt_6 := Lib.hid ((Tpt_5.out.mono hb).mono a6)
  have Ppq_6 := Lib.hid ((hpq).mono a6)
  have B6 := Lib.hid (up_call (up_call B5.out hb) a6)
  clear hb a6 Op_5 Pp_5 Tpt_5 B5 x5_0
  clear hpq
  have x6_0 := Op_6.out.c
  have x6_1 := Q_6.out.c
  go_wp2_with fail
  refine (tpCompose_any p pq hs (Tp.vT hs) _ cap _ cpq _ rfl rfl Pp_6.out Ppq_6.out hlp (by have := iT_len hs; omega)).mono ?_
  rintro e w7 ⟨pz, cpz, rfl, hpz, -, -, hb⟩
  have a7 := up_alloc (up_alloc (Below.refl w7.heap.size w7) (.cells #[.slice pz (coT hs (Tp.vT hs)).length cpz] 41 (0, 0))) (.cells #[.int .i64 (coC hs (Tp.vT hs)), .int .i64 (coI hs (Tp.vT hs))] 25 (0, 0))
  have Z_7 := Lib.hid (((One.new w7 (.slice pz (coT hs (Tp.vT hs)).length cpz) 41 (w7.heap.size) (by simp)).alloc (.cells #[.int .i64 (coC hs (Tp.vT hs)), .int .i64 (coI hs (Tp.vT hs))] 25 (0, 0))))
  have F12_7 := Lib.hid ((by have := Flt.new (w7.alloc (.cells #[.slice pz (coT hs (Tp.vT hs)).length cpz] 41 (0, 0))) (coC hs (Tp.vT hs)) (coI hs (Tp.vT hs)) 25; simpa using this : Flt ((w7.alloc (.cells #[.slice pz (coT hs (Tp.vT hs)).length cpz] 41 (0, 0))).alloc (.cells #[.int .i64 (coC hs (Tp.vT hs)), .int .i64 (coI hs (Tp.vT hs))] 25 (0, 0))) (w7.heap.size + 1) (coC hs (Tp.vT hs)) (coI hs (Tp.vT hs))))
  have Op_7 := Lib.hid ((Op_6.out.up hb).up a7)
  have Pp_7 := Lib.hid ((Pp_6.out.mono hb).mono a7)
  have Tpt_7 := Lib.hid ((Tpt_6.out.mono hb).mono a7)
  have Ppq_7 := Lib.hid ((Ppq_6.out.mono hb).mono a7)
  have Q_7 := Lib.hid ((Q_6.out.up hb).up a7)
  have F10_7 := Lib.hid ((F10_6.out.up hb).up a7)
  have Ppz_7 := Lib.hid ((hpz.self).mono a7)
  have B7 := Lib.hid (up_call (up_call B6.out hb) a7)
  clear hb a7 Op_6 Pp_6 Tpt_6 Ppq_6 Q_6 F10_6 B6 x6_0 x6_1
  clear hpz
  clear Ppq_7 Q_7
  have x7_0 := Op_7.out.c
  go_wp2_with fail
  refine (tpApply_any p pt hs t _ cap _ ct _ rfl rfl Pp_7.out hlp Tpt_7.out HCpt.out HLpt.out).mono ?_
  rintro e w8 ⟨vps, rfl, own, hb⟩
  obtain ⟨ps, cps, rfl, hcps, hlps⟩ := ownS_shape own
  have a8 := up_alloc (Below.refl w8.heap.size w8) (.cells #[.int .i64 (Tp.aC hs t), .int .i64 (Tp.aI hs t)] 25 (0, 0))
  have F14_8 := Lib.hid ((by have := Flt.new w8 (Tp.aC hs t) (Tp.aI hs t) 25; simpa using this : Flt (w8.alloc (.cells #[.int .i64 (Tp.aC hs t), .int .i64 (Tp.aI hs t)] 25 (0, 0))) (w8.heap.size) (Tp.aC hs t) (Tp.aI hs t)))
  have Op_8 := Lib.hid ((Op_7.out.up hb).up a8)
  have Pp_8 := Lib.hid ((Pp_7.out.mono hb).mono a8)
  have Tpt_8 := Lib.hid ((Tpt_7.out.mono hb).mono a8)
  have F10_8 := Lib.hid ((F10_7.out.up hb).up a8)
  have Ppz_8 := Lib.hid ((Ppz_7.out.mono hb).mono a8)
  have Z_8 := Lib.hid ((Z_7.out.up hb).up a8)
  have F12_8 := Lib.hid ((F12_7.out.up hb).up a8)
  have Tps_8 := Lib.hid ((ownS_sts own (cT_small hs t) (by have := cT_len hs t; omega)).mono a8)
  have B8 := Lib.hid (up_call (up_call B7.out hb) a8)
  clear hb a8 Op_7 Pp_7 Tpt_7 F10_7 Ppz_7 Z_7 F12_7 B7 x7_0
  have HCps := Lib.hid hcps
  have HLps := Lib.hid hlps
  clear own hcps hlps
  by_cases k162 : Tp.vC' hs = 0
  case neg =>
    have g : (Tp.vC' hs != 0) = true := by simpa using k162
    have x8_0 := F10_8.out.c0
    have x8_1 := F12_8.out.c0
    have x8_2 := F14_8.out.c0
    go_wp2_with fail
    refine (replaced_any _).mono ?_
    rintro e wz ⟨rfl, hbz⟩
    have BZ := Lib.hid (up_call B8.out hbz)
    clear hbz
    go_wp2_with fail
    go_ret
    exact ⟨rfl, BZ.out⟩
  have gk162 : (Tp.vC' hs != 0) = false := by simpa using k162
  have Hk162 := Lib.hid k162
  clear k162
  by_cases k179 : coC hs (Tp.vT hs) = 0
  case neg =>
    have g : (coC hs (Tp.vT hs) != 0) = true := by simpa using k179
    have x8_0 := F10_8.out.c0
    have x8_1 := F12_8.out.c0
    have x8_2 := F14_8.out.c0
    go_wp2_with fail
    refine (replaced_any _).mono ?_
    rintro e wz ⟨rfl, hbz⟩
    have BZ := Lib.hid (up_call B8.out hbz)
    clear hbz
    go_wp2_with fail
    go_ret
    exact ⟨rfl, BZ.out⟩
  have gk179 : (coC hs (Tp.vT hs) != 0) = false := by simpa using k179
  have Hk179 := Lib.hid k179
  clear k179
  by_cases k196 : Tp.aC hs t = 0
  case neg =>
    have g : (Tp.aC hs t != 0) = true := by simpa using k196
    have x8_0 := F10_8.out.c0
    have x8_1 := F12_8.out.c0
    have x8_2 := F14_8.out.c0
    go_wp2_with fail
    refine (replaced_any _).mono ?_
    rintro e wz ⟨rfl, hbz⟩
    have BZ := Lib.hid (up_call B8.out hbz)
    clear hbz
    go_wp2_with fail
    go_ret
    exact ⟨rfl, BZ.out⟩
  have gk196 : (Tp.aC hs t != 0) = false := by simpa using k196
  have Hk196 := Lib.hid k196
  clear k196
  have EE := Lib.hid (co_undo Hk196.out Hk162.out)
  have GE := Lib.hid (co_grown Hk196.out)
  have LT := Lib.hid (Tp.aC_zero.1 Hk196.out).vt
  have x8_0 := F10_8.out.c0
  have x8_1 := F12_8.out.c0
  have x8_2 := F14_8.out.c0
  have x8_3 := Z_8.out.c
  go_wp2_with fail
  refine (tpApply_any pz pt (coT hs (Tp.vT hs)) t _ cpz _ ct _ rfl rfl Ppz_8.out (by have := coT_len hs (Tp.vT hs); omega) Tpt_8.out HCpt.out HLpt.out).mono ?_
  rintro e w9 ⟨vpu, rfl, own, hb⟩
  obtain ⟨pu, cpu, rfl, hcpu, hlpu⟩ := ownS_shape own
  have a9 := up_alloc (Below.refl w9.heap.size w9) (.cells #[.int .i64 (Tp.aC (coT hs (Tp.vT hs)) t), .int .i64 (Tp.aI (coT hs (Tp.vT hs)) t)] 25 (0, 0))
  have F16_9 := Lib.hid ((by have := Flt.new w9 (Tp.aC (coT hs (Tp.vT hs)) t) (Tp.aI (coT hs (Tp.vT hs)) t) 25; simpa using this : Flt (w9.alloc (.cells #[.int .i64 (Tp.aC (coT hs (Tp.vT hs)) t), .int .i64 (Tp.aI (coT hs (Tp.vT hs)) t)] 25 (0, 0))) (w9.heap.size) (Tp.aC (coT hs (Tp.vT hs)) t) (Tp.aI (coT hs (Tp.vT hs)) t)))
  have Op_9 := Lib.hid ((Op_8.out.up hb).up a9)
  have Pp_9 := Lib.hid ((Pp_8.out.mono hb).mono a9)
  have Tpt_9 := Lib.hid ((Tpt_8.out.mono hb).mono a9)
  have F10_9 := Lib.hid ((F10_8.out.up hb).up a9)
  have Ppz_9 := Lib.hid ((Ppz_8.out.mono hb).mono a9)
  have Z_9 := Lib.hid ((Z_8.out.up hb).up a9)
  have F12_9 := Lib.hid ((F12_8.out.up hb).up a9)
  have Tps_9 := Lib.hid ((Tps_8.out.mono hb).mono a9)
  have F14_9 := Lib.hid ((F14_8.out.up hb).up a9)
  have Tpu_9 := Lib.hid ((ownS_sts own (cT_small (coT hs (Tp.vT hs)) t) (by have := cT_len (coT hs (Tp.vT hs)) t; omega)).mono a9)
  have B9 := Lib.hid (up_call (up_call B8.out hb) a9)
  clear hb a9 Op_8 Pp_8 Tpt_8 F10_8 Ppz_8 Z_8 F12_8 Tps_8 F14_8 B8 x8_0 x8_1 x8_2 x8_3
  have HCpu := Lib.hid hcpu
  have HLpu := Lib.hid hlpu
  clear own hcpu hlpu
  clear F10_9 Ppz_9 Z_9 F12_9 Tps_9 F14_9
  have i0 : (Tp.aC (coT hs (Tp.vT hs)) t == 0) = true := by simpa using EE.out.1
  have x9_0 := F16_9.out.c0
  go_wp2_with fail
  refine (equal_any pu pt (Tp.aT (coT hs (Tp.vT hs)) t) t _ _ cpu ct _ rfl rfl Tpu_9.out Tpt_9.out).mono ?_
  rintro e wy ⟨rfl, ny, rfl⟩
  rw [eqS_true EE.out.2]
  have BY := Lib.hid (below_drewN B9.out ny)
  have OY := Lib.hid (Op_9.out.drewN ny)
  have PY := Lib.hid (Pp_9.out.mono (below_drewN (Below.refl _ _) ny))
  clear Op_9 Pp_9 Tpt_9 Tpu_9 F16_9 x9_0
  have lv := (Lin.vC_zero LT.out).1
  have gb := Tp.gr_bound hs (fun x hx => (vp_each VP.out x hx))
  have wz : IntKind.i64.wrap ((t.length : Int) + Tp.gr hs) = (t.length : Int) + Tp.gr hs := IntWalk.i64_in _ (by have := VP.out.len; omega)
  have ge : (((Tp.aT hs t).length : Int) == (t.length : Int) + Tp.gr hs) = true := by simpa using GE.out
  have x10_0 := OY.out.c
  go_wp2_with fail
  refine (grown_any p hs _ cap _ rfl PY.out (by have := VP.out.len; omega) (vp_each VP.out)).mono ?_
  rintro e w11 ⟨rfl, hb⟩
  have Op_11 := Lib.hid (OY.out.up hb)
  have Pp_11 := Lib.hid (PY.out.mono hb)
  have B11 := Lib.hid (up_call BY.out hb)
  clear hb  OY PY BY x10_0
  go_wp2_with fail
  refine (replaced_any _).mono ?_
  rintro e wz ⟨rfl, hbz⟩
  have BZ := Lib.hid (up_call B11.out hbz)
  clear hbz
  go_wp2_with fail
  go_ret
  exact ⟨rfl, BZ.out⟩
end Go.Proofs.Ytbgnckbgpiajjaa
