/-
  The law CommuteComposes, walked.
-/
import Derived.Test.YtbgnckbgpiajjaaCpU
import Derived.Test.YtbgnckbgpiajjaaCmF
import Derived.Test.YtbgnckbgpiajjaaCpM
namespace Go.Proofs.Ytbgnckbgpiajjaa
open Go.RowKit
set_option maxRecDepth 4000

theorem co_ex {p q : List Tp.H} (h : Tp.eB p q = true) : coC (Tp.eA1 p q) (Tp.eA2 p q) = coC p q ∧ coI (Tp.eA1 p q) (Tp.eA2 p q) = coI p q ∧ coT (Tp.eA1 p q) (Tp.eA2 p q) = coT p q := by
  obtain ⟨k, -, e1, e2⟩ := Tp.e_ok h
  obtain ⟨x1, -, -⟩ := k.1.twice k.2.1 k.2.2
  have ec := k.1.composes k.2.1
  rw [e1, e2]
  obtain ⟨a1, a2, a3, a4⟩ := co_fit (Tp.prC_zero.2 ⟨k.1.vp, k.1.vq⟩) (kf_none k.1.calm).1
  obtain ⟨b1, b2, b3, b4⟩ := co_fit (Tp.prC_zero.2 ⟨k.2.1, k.2.2⟩) (kf_none x1.calm).1
  rw [← ec] at b1 b2 b3 b4
  refine ⟨by rw [a1, b1], by rw [a2, b2], ?_⟩
  by_cases l : Tp.pC (Tp.cm p q) = 0
  · rw [a3 l, b3 l]
  · rw [a4 l, b4 l]

set_option maxRecDepth 100000 in
set_option maxHeartbeats 8000000 in
theorem composes_walk (p : Option Addr) (hs : List Tp.H) (cap : Nat) (q : Option Addr) (ks : List Tp.H) (cap' : Nat) (w : World) (hp : Ptc w p hs) (_hcp : p = none → cap = 0) (hlp : hs.length ≤ 2513169434845) (_hlcp : hs.length ≤ cap) (_hfp : ∀ k ∈ hs, fits63 k.at') (hq : Ptc w q ks) (_hcq : q = none → cap' = 0) (hlq : ks.length ≤ 2513169434845) (_hlcq : ks.length ≤ cap') (_hfq : ∀ k ∈ ks, fits63 k.at') :
    Calls Try.prog 13 #[.agg #[.slice p hs.length cap], .agg #[.slice q ks.length cap']] w (TPost w) := by
  have b0 := up_alloc (up_alloc (Below.refl w.heap.size w) (.cells #[.slice p hs.length cap] 41 (0, 0))) (.cells #[.slice q ks.length cap'] 41 (0, 0))
  have Op_0 := Lib.hid (((One.new w (.slice p hs.length cap) 41 (w.heap.size) (by simp)).alloc (.cells #[.slice q ks.length cap'] 41 (0, 0))))
  have Oq_0 := Lib.hid ((One.new (w.alloc (.cells #[.slice p hs.length cap] 41 (0, 0))) (.slice q ks.length cap') 41 (w.heap.size + 1) (by simp)))
  have Pp_0 := Lib.hid (hp.mono b0)
  have Pq_0 := Lib.hid (hq.mono b0)
  have B0 := Lib.hid b0
  clear hp hq b0
  go_enter Try.func13, Try.ntmps13
  have x0_0 := Op_0.out.c
  have x0_1 := Oq_0.out.c
  go_wp2_with fail
  refine (cmCommute_any p q hs ks _ cap _ cap' _ rfl rfl Pp_0.out Pq_0.out hlp hlq).mono ?_
  rintro e w1 ⟨pa, cpa, pb, cpb, rfl, hpa, -, -, hpb, -, -, hb⟩
  have a1 := up_alloc (up_alloc (up_alloc (Below.refl w1.heap.size w1) (.cells #[.slice pa (Tp.eA1 hs ks).length cpa] 41 (0, 0))) (.cells #[.slice pb (Tp.eA2 hs ks).length cpb] 41 (0, 0))) (.cells #[.int .i64 (Tp.eC hs ks), .int .i64 (Tp.eI hs ks)] 25 (0, 0))
  have A_1 := Lib.hid ((((One.new w1 (.slice pa (Tp.eA1 hs ks).length cpa) 41 (w1.heap.size) (by simp)).alloc (.cells #[.slice pb (Tp.eA2 hs ks).length cpb] 41 (0, 0))).alloc (.cells #[.int .i64 (Tp.eC hs ks), .int .i64 (Tp.eI hs ks)] 25 (0, 0))))
  have Bb_1 := Lib.hid (((One.new (w1.alloc (.cells #[.slice pa (Tp.eA1 hs ks).length cpa] 41 (0, 0))) (.slice pb (Tp.eA2 hs ks).length cpb) 41 (w1.heap.size + 1) (by simp)).alloc (.cells #[.int .i64 (Tp.eC hs ks), .int .i64 (Tp.eI hs ks)] 25 (0, 0))))
  have F8_1 := Lib.hid ((by have := Flt.new ((w1.alloc (.cells #[.slice pa (Tp.eA1 hs ks).length cpa] 41 (0, 0))).alloc (.cells #[.slice pb (Tp.eA2 hs ks).length cpb] 41 (0, 0))) (Tp.eC hs ks) (Tp.eI hs ks) 25; simpa using this : Flt (((w1.alloc (.cells #[.slice pa (Tp.eA1 hs ks).length cpa] 41 (0, 0))).alloc (.cells #[.slice pb (Tp.eA2 hs ks).length cpb] 41 (0, 0))).alloc (.cells #[.int .i64 (Tp.eC hs ks), .int .i64 (Tp.eI hs ks)] 25 (0, 0))) (w1.heap.size + 1 + 1) (Tp.eC hs ks) (Tp.eI hs ks)))
  have Op_1 := Lib.hid ((Op_0.out.up hb).up a1)
  have Oq_1 := Lib.hid ((Oq_0.out.up hb).up a1)
  have Pp_1 := Lib.hid ((Pp_0.out.mono hb).mono a1)
  have Pq_1 := Lib.hid ((Pq_0.out.mono hb).mono a1)
  have Ppa_1 := Lib.hid ((hpa.self).mono a1)
  have Ppb_1 := Lib.hid ((hpb.self).mono a1)
  have B1 := Lib.hid (up_call (up_call B0.out hb) a1)
  clear hb a1 Op_0 Oq_0 Pp_0 Pq_0 B0 x0_0 x0_1
  clear hpa hpb
  by_cases k28 : Tp.eC hs ks = 0
  case neg =>
    have g : (Tp.eC hs ks != 0) = true := by simpa using k28
    have x1_0 := F8_1.out.c0
    go_wp2_with fail
    refine (exchanged_any _).mono ?_
    rintro e wz ⟨rfl, hbz⟩
    have BZ := Lib.hid (up_call B1.out hbz)
    clear hbz
    go_wp2_with fail
    go_ret
    exact ⟨rfl, BZ.out⟩
  have gk28 : (Tp.eC hs ks != 0) = false := by simpa using k28
  have Hk28 := Lib.hid k28
  clear k28
  cases hB : Tp.eB hs ks
  case false =>
    have x1_0 := F8_1.out.c0
    go_wp2_with fail
    refine (exchanged_any _).mono ?_
    rintro e wz ⟨rfl, hbz⟩
    have BZ := Lib.hid (up_call B1.out hbz)
    clear hbz
    go_wp2_with fail
    go_ret
    exact ⟨rfl, BZ.out⟩
  have HBX := Lib.hid hB
  clear hB
  have EE := Lib.hid (co_ex HBX.out)
  have x1_0 := F8_1.out.c0
  have x1_1 := Op_1.out.c
  have x1_2 := Oq_1.out.c
  go_wp2_with fail
  refine (tpCompose_any p q hs ks _ cap _ cap' _ rfl rfl Pp_1.out Pq_1.out hlp hlq).mono ?_
  rintro e w2 ⟨px, cpx, rfl, hpx, -, -, hb⟩
  have a2 := up_alloc (up_alloc (Below.refl w2.heap.size w2) (.cells #[.slice px (coT hs ks).length cpx] 41 (0, 0))) (.cells #[.int .i64 (coC hs ks), .int .i64 (coI hs ks)] 25 (0, 0))
  have X_2 := Lib.hid (((One.new w2 (.slice px (coT hs ks).length cpx) 41 (w2.heap.size) (by simp)).alloc (.cells #[.int .i64 (coC hs ks), .int .i64 (coI hs ks)] 25 (0, 0))))
  have F10_2 := Lib.hid ((by have := Flt.new (w2.alloc (.cells #[.slice px (coT hs ks).length cpx] 41 (0, 0))) (coC hs ks) (coI hs ks) 25; simpa using this : Flt ((w2.alloc (.cells #[.slice px (coT hs ks).length cpx] 41 (0, 0))).alloc (.cells #[.int .i64 (coC hs ks), .int .i64 (coI hs ks)] 25 (0, 0))) (w2.heap.size + 1) (coC hs ks) (coI hs ks)))
  have Op_2 := Lib.hid ((Op_1.out.up hb).up a2)
  have Oq_2 := Lib.hid ((Oq_1.out.up hb).up a2)
  have Pp_2 := Lib.hid ((Pp_1.out.mono hb).mono a2)
  have Pq_2 := Lib.hid ((Pq_1.out.mono hb).mono a2)
  have Ppa_2 := Lib.hid ((Ppa_1.out.mono hb).mono a2)
  have Ppb_2 := Lib.hid ((Ppb_1.out.mono hb).mono a2)
  have A_2 := Lib.hid ((A_1.out.up hb).up a2)
  have Bb_2 := Lib.hid ((Bb_1.out.up hb).up a2)
  have F8_2 := Lib.hid ((F8_1.out.up hb).up a2)
  have Ppx_2 := Lib.hid ((hpx.self).mono a2)
  have B2 := Lib.hid (up_call (up_call B1.out hb) a2)
  clear hb a2 Op_1 Oq_1 Pp_1 Pq_1 Ppa_1 Ppb_1 A_1 Bb_1 F8_1 B1 x1_0 x1_1 x1_2
  clear hpx
  clear Op_2 Oq_2 Pp_2 Pq_2 F8_2
  have x2_0 := A_2.out.c
  have x2_1 := Bb_2.out.c
  go_wp2_with fail
  refine (tpCompose_any pa pb (Tp.eA1 hs ks) (Tp.eA2 hs ks) _ cpa _ cpb _ rfl rfl Ppa_2.out Ppb_2.out (by have := (eA_len hs ks).1; omega) (by have := (eA_len hs ks).2; omega)).mono ?_
  rintro e w3 ⟨py, cpy, rfl, hpy, -, -, hb⟩
  rw [EE.out.2.2] at hpy
  rw [EE.out.1, EE.out.2.1, EE.out.2.2]
  have a3 := up_alloc (up_alloc (Below.refl w3.heap.size w3) (.cells #[.slice py (coT hs ks).length cpy] 41 (0, 0))) (.cells #[.int .i64 (coC hs ks), .int .i64 (coI hs ks)] 25 (0, 0))
  have Y_3 := Lib.hid (((One.new w3 (.slice py (coT hs ks).length cpy) 41 (w3.heap.size) (by simp)).alloc (.cells #[.int .i64 (coC hs ks), .int .i64 (coI hs ks)] 25 (0, 0))))
  have F12_3 := Lib.hid ((by have := Flt.new (w3.alloc (.cells #[.slice py (coT hs ks).length cpy] 41 (0, 0))) (coC hs ks) (coI hs ks) 25; simpa using this : Flt ((w3.alloc (.cells #[.slice py (coT hs ks).length cpy] 41 (0, 0))).alloc (.cells #[.int .i64 (coC hs ks), .int .i64 (coI hs ks)] 25 (0, 0))) (w3.heap.size + 1) (coC hs ks) (coI hs ks)))
  have Ppa_3 := Lib.hid ((Ppa_2.out.mono hb).mono a3)
  have Ppb_3 := Lib.hid ((Ppb_2.out.mono hb).mono a3)
  have A_3 := Lib.hid ((A_2.out.up hb).up a3)
  have Bb_3 := Lib.hid ((Bb_2.out.up hb).up a3)
  have Ppx_3 := Lib.hid ((Ppx_2.out.mono hb).mono a3)
  have X_3 := Lib.hid ((X_2.out.up hb).up a3)
  have F10_3 := Lib.hid ((F10_2.out.up hb).up a3)
  have Ppy_3 := Lib.hid ((hpy.self).mono a3)
  have B3 := Lib.hid (up_call (up_call B2.out hb) a3)
  clear hb a3 Ppa_2 Ppb_2 A_2 Bb_2 Ppx_2 X_2 F10_2 B2 x2_0 x2_1
  clear hpy
  clear Ppa_3 Ppb_3 A_3 Bb_3
  have LX := Lib.hid (coT_len hs ks)
  have x3_0 := F10_3.out.c0
  have x3_1 := F10_3.out.c1
  have x3_2 := F12_3.out.c0
  have x3_3 := F12_3.out.c1
  have x3_4 := X_3.out.c
  have x3_5 := Y_3.out.c
  go_wp2_with fail
  refine (patchEq_any px py (coT hs ks) (coT hs ks) _ _ cpx cpy _ rfl rfl Ppx_3.out Ppy_3.out (by have := LX.out; omega)).mono ?_
  rintro e w4 ⟨rfl, hb⟩
  rw [eqP_true (rfl)]
  have Ppx_4 := Lib.hid (Ppx_3.out.mono hb)
  have X_4 := Lib.hid (X_3.out.up hb)
  have F10_4 := Lib.hid (F10_3.out.up hb)
  have Ppy_4 := Lib.hid (Ppy_3.out.mono hb)
  have Y_4 := Lib.hid (Y_3.out.up hb)
  have F12_4 := Lib.hid (F12_3.out.up hb)
  have B4 := Lib.hid (up_call B3.out hb)
  clear hb  Ppx_3 X_3 F10_3 Ppy_3 Y_3 F12_3 B3 x3_0 x3_1 x3_2 x3_3 x3_4 x3_5
  go_wp2_with fail
  refine (exchanged_any _).mono ?_
  rintro e wz ⟨rfl, hbz⟩
  have BZ := Lib.hid (up_call B4.out hbz)
  clear hbz
  go_wp2_with fail
  go_ret
  exact ⟨rfl, BZ.out⟩
end Go.Proofs.Ytbgnckbgpiajjaa
