/-
  The laws TextpatchInvolution and TextpatchUndo, walked.
-/
import Derived.Test.YtidjdoamnbilaaaTqH
import Derived.Test.YtidjdoamnbilaaaPat
namespace Go.Proofs.Ytidjdoamnbilaaa
open Go.RowKit

theorem vT_zero {hs : List Tp.H} (h : Tp.vC' hs = 0) : Tp.vT hs = Tp.iv 0 hs ∧ Tp.Vp hs ∧ Tp.Vp (Tp.iv 0 hs) := ⟨if_pos h, Tp.vC'_zero.1 h⟩
theorem vv_zero {hs : List Tp.H} (h : Tp.vC' hs = 0) : Tp.vC' (Tp.iv 0 hs) = 0 ∧ Tp.vT (Tp.iv 0 hs) = hs := by
  obtain ⟨-, h1, h2⟩ := vT_zero h
  have e : Tp.iv 0 (Tp.iv 0 hs) = hs := Tp.iv_iv hs 0 0 rfl
  have k : Tp.vC' (Tp.iv 0 hs) = 0 := Tp.vC'_zero.2 ⟨h2, by rw [e]; exact h1⟩
  exact ⟨k, by rw [(vT_zero k).1, e]⟩

set_option maxRecDepth 100000 in
set_option maxHeartbeats 2000000 in
theorem involution_walk (p : Option Addr) (hs : List Tp.H) (cap : Nat) (w : World) (hp : Ptc w p hs) (_hc : p = none → cap = 0) (hl : hs.length ≤ 2513169434845) (_hlc : hs.length ≤ cap) (_hf : ∀ k ∈ hs, fits63 k.at') :
    Calls Try.prog 6 #[.agg #[.slice p hs.length cap]] w (TPost w) := by
  have b0 := up_alloc (Below.refl w.heap.size w) (.cells #[.slice p hs.length cap] 24 (0, 0))
  have P0 := Lib.hid (hp.mono b0)
  have O0 := Lib.hid (One.new w (.slice p hs.length cap) 24 w.heap.size rfl)
  have B0 := Lib.hid b0
  clear hp b0
  go_enter Try.func6, Try.ntmps6
  go_wp2_with fail
  refine (tpInvert_any p hs _ cap _ rfl P0.out hl).mono ?_
  rintro e w1 ⟨q, cq, rfl, hq, hcq, hlq, hb1⟩
  have a1 := up_alloc (up_alloc (Below.refl w1.heap.size w1) (.cells #[.slice q (Tp.vT hs).length cq] 24 (0, 0))) (.cells #[.int .i64 (Tp.vC' hs), .int .i64 (Tp.vI' hs)] 27 (0, 0))
  have B1 := Lib.hid (up_call (up_call B0.out hb1) a1)
  have P1 := Lib.hid ((P0.out.mono hb1).mono a1)
  have O1 := Lib.hid ((O0.out.up hb1).up a1)
  have Q1 := Lib.hid (hq.mono a1)
  have C1 := Lib.hid ((One.new w1 (.slice q (Tp.vT hs).length cq) 24 w1.heap.size rfl).alloc (.cells #[.int .i64 (Tp.vC' hs), .int .i64 (Tp.vI' hs)] 27 (0, 0)))
  clear hq hcq hlq hb1 a1 B0 P0 O0
  by_cases hv : Tp.vC' hs = 0
  · have HV := Lib.hid hv
    rw [hv] at B1 P1 O1 Q1 C1 ⊢
    rw [(vT_zero hv).1] at B1 P1 O1 Q1 C1 ⊢
    have hlen := (vT_zero hv).2.1.len
    clear hv
    have cc := C1.out.c
    go_wp2_with fail
    refine (tpInvert_any q (Tp.iv 0 hs) _ cq _ rfl Q1.out (by rw [Tp.iv_len]; omega)).mono ?_
    rintro e w2 ⟨r, cr, rfl, hr, hcr, hlr, hb2⟩
    rw [(vv_zero HV.out).1]
    rw [(vv_zero HV.out).2] at hr ⊢
    have a2 := up_alloc (up_alloc (Below.refl w2.heap.size w2) (.cells #[.slice r hs.length cr] 24 (0, 0))) (.cells #[.int .i64 0, .int .i64 (Tp.vI' (Tp.iv 0 hs))] 27 (0, 0))
    have B2 := Lib.hid (up_call (up_call B1.out hb2) a2)
    have P2 := Lib.hid ((P1.out.mono hb2).mono a2)
    have R2 := Lib.hid (hr.mono a2)
    have o2 := ((O1.out.up hb2).up a2).c
    have c2 := ((One.new w2 (.slice r hs.length cr) 24 w2.heap.size rfl).alloc (.cells #[.int .i64 0, .int .i64 (Tp.vI' (Tp.iv 0 hs))] 27 (0, 0))).c
    clear hr hcr hlr hb2 a2 B1 P1 O1 Q1 C1 cc
    go_wp2_with fail
    refine (patchEq_any r p hs hs _ _ cr cap _ rfl rfl R2.out P2.out (by omega)).mono ?_
    rintro e w3 ⟨rfl, hb3⟩
    rw [eqP_true rfl]
    have B3 := Lib.hid (up_call B2.out hb3)
    clear hb3 B2 R2 P2
    go_wp2_with fail
    refine (replaced_any _).mono ?_
    rintro e w4 ⟨rfl, hb4⟩
    have B4 := Lib.hid (up_call B3.out hb4)
    clear hb4 B3
    go_wp2_with fail
    go_ret
    exact ⟨rfl, B4.out⟩
  · have hne : (Tp.vC' hs != 0) = true := by simpa using hv
    go_wp2_with fail
    refine (replaced_any _).mono ?_
    rintro e w4 ⟨rfl, hb4⟩
    have B4 := Lib.hid (up_call B1.out hb4)
    clear hb4 B1
    go_wp2_with fail
    go_ret
    exact ⟨rfl, B4.out⟩
set_option maxRecDepth 100000 in
set_option maxHeartbeats 2000000 in
theorem undo_walk (p : Option Addr) (hs : List Tp.H) (cap : Nat) (pt : Option Addr) (t : List ByteArray) (ct : Nat) (w : World) (hp : Ptc w p hs) (_hc : p = none → cap = 0) (hl : hs.length ≤ 2513169434845) (_hlc : hs.length ≤ cap) (_hf : ∀ k ∈ hs, fits63 k.at')
    (ht : Sts w pt t) (hct : pt = none → ct = 0) (_hlt : t.length ≤ 8796093021952) (hlc' : t.length ≤ ct) :
    Calls Try.prog 5 #[.agg #[.slice p hs.length cap], .slice pt t.length ct] w (TPost w) := by
  have b0 := up_alloc (Below.refl w.heap.size w) (.cells #[.slice p hs.length cap] 24 (0, 0))
  have P0 := Lib.hid (hp.mono b0)
  have T0 := Lib.hid (ht.mono b0)
  have O0 := Lib.hid (One.new w (.slice p hs.length cap) 24 w.heap.size rfl)
  have B0 := Lib.hid b0
  have HC := Lib.hid hct
  have HL := Lib.hid hlc'
  clear hp ht b0 hct hlc'
  go_enter Try.func5, Try.ntmps5
  go_wp2_with fail
  refine (tpApply_any p pt hs t _ cap _ ct _ rfl rfl P0.out hl T0.out HC.out HL.out).mono ?_
  rintro e w1 ⟨vs, rfl, own1, hb1⟩
  have a1 := up_alloc (Below.refl w1.heap.size w1) (.cells #[.int .i64 (Tp.aC hs t), .int .i64 (Tp.aI hs t)] 27 (0, 0))
  obtain ⟨ps, cs, rfl, hcs, hls⟩ := ownS_shape own1
  have B1 := Lib.hid (up_call (up_call B0.out hb1) a1)
  have P1 := Lib.hid ((P0.out.mono hb1).mono a1)
  have T1 := Lib.hid ((T0.out.mono hb1).mono a1)
  have O1 := Lib.hid ((O0.out.up hb1).up a1)
  have F1 := Lib.hid (Flt.new w1 (Tp.aC hs t) (Tp.aI hs t) 27)
  have W1 := Lib.hid (ownS_up own1 a1)
  have HCS := Lib.hid (And.intro hcs hls)
  have oc1 := O1.out.c
  clear own1 hb1 a1 B0 P0 T0 O0 hcs hls
  go_wp2_with fail
  refine (tpInvert_any p hs _ cap _ rfl P1.out hl).mono ?_
  rintro e w2 ⟨q, cq, rfl, hq, hcq, hlq, hb2⟩
  have a2 := up_alloc (up_alloc (Below.refl w2.heap.size w2) (.cells #[.slice q (Tp.vT hs).length cq] 24 (0, 0))) (.cells #[.int .i64 (Tp.vC' hs), .int .i64 (Tp.vI' hs)] 27 (0, 0))
  have B2 := Lib.hid (up_call (up_call B1.out hb2) a2)
  have T2 := Lib.hid ((T1.out.mono hb2).mono a2)
  have F2 := Lib.hid ((F1.out.up hb2).up a2)
  have W2 := Lib.hid (ownS_up (ownS_up W1.out hb2) a2)
  have Q2 := Lib.hid (hq.mono a2)
  have C2 := Lib.hid ((One.new w2 (.slice q (Tp.vT hs).length cq) 24 w2.heap.size rfl).alloc (.cells #[.int .i64 (Tp.vC' hs), .int .i64 (Tp.vI' hs)] 27 (0, 0)))
  have f0 := F2.out.c0
  have fl := F2.out.lt
  clear hq hcq hlq hb2 a2 B1 P1 T1 O1 F1 W1 oc1
  by_cases ha : Tp.aC hs t = 0
  · by_cases hv : Tp.vC' hs = 0
    · have HA := Lib.hid ha
      have HV := Lib.hid hv
      have ea : Tp.aT hs t = Tp.ap t 0 hs := if_pos ha
      have ok := Tp.ok_undo (Tp.aC_zero.1 ha) (vT_zero hv).2.2
      have sm := Tp.ap_small (Tp.aC_zero.1 ha).vp (Tp.aC_zero.1 ha).vt 0 0
      rw [List.drop_zero] at sm
      have la := (Tp.aC_zero.1 ha).len
      have hlen := (vT_zero hv).2.1.len
      rw [ea] at W2 HCS ⊢
      rw [(vT_zero hv).1] at Q2 C2 T2 W2 B2 F2 f0 fl ⊢
      rw [ha] at f0 ⊢
      rw [hv] at Q2 C2 T2 W2 B2 F2 f0 fl ⊢
      have OK := Lib.hid ok
      have S2 := Lib.hid (ownS_sts W2.out sm (by omega))
      have cc := C2.out.c
      clear ha hv ea ok sm W2 F2
      go_wp2_with fail
      refine (tpApply_any q ps (Tp.iv 0 hs) (Tp.ap t 0 hs) _ cq _ cs _ rfl rfl Q2.out (by rw [Tp.iv_len]; omega) S2.out HCS.out.1 HCS.out.2).mono ?_
      rintro e w3 ⟨vr, rfl, own3, hb3⟩
      have e3 := Tp.aC_zero.2 OK.out.1
      have e4 : Tp.aT (Tp.iv 0 hs) (Tp.ap t 0 hs) = t := by unfold Tp.aT; rw [if_pos e3, OK.out.2]
      rw [e3]
      rw [e4] at own3
      obtain ⟨pr, cr, rfl, -, -⟩ := ownS_shape own3
      have a3 := up_alloc (Below.refl w3.heap.size w3) (.cells #[.int .i64 0, .int .i64 (Tp.aI (Tp.iv 0 hs) (Tp.ap t 0 hs))] 27 (0, 0))
      have B3 := Lib.hid (up_call (up_call B2.out hb3) a3)
      have T3 := Lib.hid ((T2.out.mono hb3).mono a3)
      have R3 := Lib.hid ((ownS_sts own3 T2.out.small T2.out.len).mono a3)
      clear own3 hb3 a3 e3 e4 B2 T2 Q2 C2 S2 cc f0 fl
      go_wp2_with fail
      refine (equal_any pr pt t t _ _ cr ct _ rfl rfl R3.out T3.out).mono ?_
      rintro e w4 ⟨rfl, nq, hw4⟩
      rw [eqS_true rfl]
      have B4 : Hid (Below w.heap.size w w4) := Lib.hid (by rw [hw4]; exact below_drewN B3.out _)
      clear hw4 B3 T3 R3
      go_wp2_with fail
      refine (replaced_any _).mono ?_
      rintro e w5 ⟨rfl, hb5⟩
      have B5 := Lib.hid (up_call B4.out hb5)
      clear hb5 B4
      go_wp2_with fail
      go_ret
      exact ⟨rfl, B5.out⟩
    · have hne : (Tp.vC' hs != 0) = true := by simpa using hv
      rw [ha] at f0
      have g0 : ((0 : Int) != 0) = false := by decide
      go_wp2_with fail
      refine (replaced_any _).mono ?_
      rintro e w5 ⟨rfl, hb5⟩
      have B5 := Lib.hid (up_call B2.out hb5)
      clear hb5 B2
      go_wp2_with fail
      go_ret
      exact ⟨rfl, B5.out⟩
  · have hne : (Tp.aC hs t != 0) = true := by simpa using ha
    go_wp2_with fail
    refine (replaced_any _).mono ?_
    rintro e w5 ⟨rfl, hb5⟩
    have B5 := Lib.hid (up_call B2.out hb5)
    clear hb5 B2
    go_wp2_with fail
    go_ret
    exact ⟨rfl, B5.out⟩
end Go.Proofs.Ytidjdoamnbilaaa
