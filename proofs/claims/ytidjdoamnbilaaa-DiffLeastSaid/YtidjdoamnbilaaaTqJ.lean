/-
  The laws DiffApplies and DiffLeast, walked.
-/
import Derived.Test.YtidjdoamnbilaaaTqD
import Derived.Test.YtidjdoamnbilaaaTpH
import Derived.Test.YtidjdoamnbilaaaDfM
import Derived.Test.YtidjdoamnbilaaaDfH
import Derived.Test.YtidjdoamnbilaaaPat
namespace Go.Proofs.Ytidjdoamnbilaaa
open Go.RowKit

theorem sD_ok {a b : List ByteArray} (h : okD a b) : sD a b = Dif.pof (Dif.al a b) := if_pos h

set_option maxRecDepth 100000 in
set_option maxHeartbeats 2000000 in
theorem applies_walk (p : Option Addr) (a : List ByteArray) (cap : Nat) (q : Option Addr) (b : List ByteArray) (cap' : Nat) (w : World)
    (hp : Sts w p a) (hc : p = none → cap = 0) (_hl : a.length ≤ 8796093021952) (hlc : a.length ≤ cap) (hq : Sts w q b) (hc' : q = none → cap' = 0) (_hl' : b.length ≤ 8796093021952) (hlc' : b.length ≤ cap') :
    Calls Try.prog 10 #[.slice p a.length cap, .slice q b.length cap'] w (TPost w) := by
  have HP := Lib.hid hp
  have HQ := Lib.hid hq
  have HC := Lib.hid hc
  have HC' := Lib.hid hc'
  have HL := Lib.hid hlc
  have HL' := Lib.hid hlc'
  clear hp hq hc hc' hlc hlc'
  go_enter Try.func10, Try.ntmps10
  go_wp2_with fail
  refine (script_any p q a b _ _ cap cap' _ rfl rfl HP.out HQ.out HC.out HC'.out HL.out HL'.out).mono ?_
  rintro e w1 ⟨r, cr, rfl, hr, hcr, hlr, hb1⟩
  by_cases hab : okD a b
  · rw [(tC_ok hab).1, (tC_ok hab).2]
    rw [sD_ok hab] at hr hlr ⊢
    have a1 := up_alloc (up_alloc (Below.refl w1.heap.size w1) (.cells #[.slice r (Dif.pof (Dif.al a b)).length cr] 24 (0, 0))) (.cells #[.int .i64 0, .int .i64 0] 27 (0, 0))
    have B1 := Lib.hid (up_call hb1 a1)
    have P1 := Lib.hid (hr.mono a1)
    have c1 := ((One.new w1 (.slice r (Dif.pof (Dif.al a b)).length cr) 24 w1.heap.size rfl).alloc (.cells #[.int .i64 0, .int .i64 0] 27 (0, 0))).c
    have OK := Lib.hid (Tp.script_ok hab)
    have hlen := (Tp.script_ok hab).1.vp.len
    clear hr hcr hlr hb1 a1
    go_wp2_with fail
    refine (tpApply_any r p (Dif.pof (Dif.al a b)) a _ cr _ cap _ rfl rfl P1.out (by omega) (HP.out.mono B1.out) HC.out HL.out).mono ?_
    rintro e w2 ⟨vs, rfl, own2, hb2⟩
    have e3 := Tp.aC_zero.2 OK.out.1
    have e4 : Tp.aT (Dif.pof (Dif.al a b)) a = b := by unfold Tp.aT; rw [if_pos e3, OK.out.2.1]
    rw [e3]
    rw [e4] at own2
    obtain ⟨ps, cs, rfl, -, -⟩ := ownS_shape own2
    have a2 := up_alloc (Below.refl w2.heap.size w2) (.cells #[.int .i64 0, .int .i64 (Tp.aI (Dif.pof (Dif.al a b)) a)] 27 (0, 0))
    have B2 := Lib.hid (up_call (up_call B1.out hb2) a2)
    have R2 := Lib.hid ((ownS_sts own2 HQ.out.small HQ.out.len).mono a2)
    clear own2 hb2 a2 e3 e4 B1 P1 c1
    go_wp2_with fail
    refine (equal_any ps q b b _ _ cs cap' _ rfl rfl R2.out (HQ.out.mono B2.out)).mono ?_
    rintro e w4 ⟨rfl, nq, hw4⟩
    rw [eqS_true rfl]
    have B4 : Hid (Below w.heap.size w w4) := Lib.hid (by rw [hw4]; exact below_drewN B2.out _)
    clear hw4 B2 R2
    go_wp2_with fail
    refine (moved_any _).mono ?_
    rintro e w5 ⟨rfl, hb5⟩
    have B5 := Lib.hid (up_call B4.out hb5)
    clear hb5 B4
    go_wp2_with fail
    go_ret
    exact ⟨rfl, B5.out⟩
  · have hne : (tC a b != 0) = true := by simp; exact fun e => hab (tC_iff.1 e)
    have a1 := up_alloc (up_alloc (Below.refl w1.heap.size w1) (.cells #[.slice r (sD a b).length cr] 24 (0, 0))) (.cells #[.int .i64 (tC a b), .int .i64 (tI a b)] 27 (0, 0))
    have B1 := Lib.hid (up_call hb1 a1)
    clear hr hcr hlr hb1 a1
    go_wp2_with fail
    refine (moved_any _).mono ?_
    rintro e w5 ⟨rfl, hb5⟩
    have B5 := Lib.hid (up_call B1.out hb5)
    clear hb5 B1
    go_wp2_with fail
    go_ret
    exact ⟨rfl, B5.out⟩

set_option maxRecDepth 100000 in
set_option maxHeartbeats 2000000 in
theorem least_walk (pt : Option Addr) (t : List ByteArray) (ct : Nat) (p : Option Addr) (hs : List Tp.H) (cap : Nat) (w : World)
    (ht : Sts w pt t) (hct : pt = none → ct = 0) (_hlt : t.length ≤ 8796093021952) (hlc' : t.length ≤ ct) (hp : Ptc w p hs) (_hc : p = none → cap = 0) (hl : hs.length ≤ 2513169434845) (_hlc : hs.length ≤ cap) (_hf : ∀ k ∈ hs, fits63 k.at') :
    Calls Try.prog 11 #[.slice pt t.length ct, .agg #[.slice p hs.length cap]] w (TPost w) := by
  have b0 := up_alloc (Below.refl w.heap.size w) (.cells #[.slice p hs.length cap] 24 (0, 0))
  have P0 := Lib.hid (hp.mono b0)
  have T0 := Lib.hid (ht.mono b0)
  have O0 := Lib.hid (One.new w (.slice p hs.length cap) 24 w.heap.size rfl)
  have B0 := Lib.hid b0
  have HC := Lib.hid hct
  have HL := Lib.hid hlc'
  clear hp ht b0 hct hlc'
  go_enter Try.func11, Try.ntmps11
  go_wp2_with fail
  refine (tpApply_any p pt hs t _ cap _ ct _ rfl rfl P0.out hl T0.out HC.out HL.out).mono ?_
  rintro e w1 ⟨vs, rfl, own1, hb1⟩
  have a1 := up_alloc (Below.refl w1.heap.size w1) (.cells #[.int .i64 (Tp.aC hs t), .int .i64 (Tp.aI hs t)] 27 (0, 0))
  obtain ⟨ps, cs, rfl, hcs, hls⟩ := ownS_shape own1
  have B1 := Lib.hid (up_call (up_call B0.out hb1) a1)
  have P1 := Lib.hid ((P0.out.mono hb1).mono a1)
  have T1 := Lib.hid ((T0.out.mono hb1).mono a1)
  have O1 := Lib.hid ((O0.out.up hb1).up a1)
  have W1 := Lib.hid (ownS_up own1 a1)
  have HCS := Lib.hid (And.intro hcs hls)
  clear own1 hb1 a1 B0 P0 T0 O0 hcs hls
  by_cases ha : Tp.aC hs t = 0
  · have ok := Tp.aC_zero.1 ha
    have ea : Tp.aT hs t = Tp.ap t 0 hs := if_pos ha
    have sm := Tp.ap_small ok.vp ok.vt 0 0
    rw [List.drop_zero] at sm
    have la := ok.len
    have hlen := ok.vp.len
    have hab : okD t (Tp.ap t 0 hs) := ⟨ok.vt, Tp.ap_txt ok⟩
    have LE := Tp.least ok
    have SO := Tp.script_ok hab
    have hv : ∀ h ∈ hs, h.old.length ≤ 120 ∧ h.new.length ≤ 120 := fun x hx => by
      have := Tp.ch_new ok.vp.ch x hx
      exact ⟨(Lin.vC_zero this.2).1, (Lin.vC_zero this.1).1⟩
    have hv2 : ∀ h ∈ Dif.pof (Dif.al t (Tp.ap t 0 hs)), h.old.length ≤ 120 ∧ h.new.length ≤ 120 := fun x hx => by
      have := Tp.ch_new SO.1.vp.ch x hx
      exact ⟨(Lin.vC_zero this.2).1, (Lin.vC_zero this.1).1⟩
    have hlen2 := SO.1.vp.len
    have LD : dD t (Tp.ap t 0 hs) ≤ ((Tp.co hs : Nat) : Int) := by rw [dD, if_pos hab]; exact LE
    rw [ha] at B1 P1 T1 O1 W1 ⊢
    rw [ea] at W1 HCS ⊢
    obtain ⟨s, hs'⟩ : ∃ s, s = Tp.ap t 0 hs := ⟨_, rfl⟩
    rw [← hs'] at W1 HCS sm la hab SO hv2 hlen2 LD ⊢
    have S1 := Lib.hid (ownS_sts W1.out sm (by omega))
    have HV := Lib.hid hv
    have HV2 := Lib.hid hv2
    have HAB := Lib.hid hab
    have SOH := Lib.hid SO.2.2
    have LDH := Lib.hid LD
    have la' := la
    clear ha ea sm ok LE SO hv hv2 hs' hab W1 LD
    go_wp2_with fail
    refine (distance_any pt ps t s _ _ ct cs _ rfl rfl T1.out S1.out).mono ?_
    rintro e w2 ⟨rfl, hb2⟩
    rw [(tC_ok HAB.out).1, (tC_ok HAB.out).2]
    have a2 := up_alloc (Below.refl w2.heap.size w2) (.cells #[.int .i64 0, .int .i64 0] 27 (0, 0))
    have B2 := Lib.hid (up_call (up_call B1.out hb2) a2)
    have P2 := Lib.hid ((P1.out.mono hb2).mono a2)
    have T2 := Lib.hid ((T1.out.mono hb2).mono a2)
    have S2 := Lib.hid ((S1.out.mono hb2).mono a2)
    have O2 := Lib.hid ((O1.out.up hb2).up a2)
    have F2 := Lib.hid (Flt.new w2 0 0 27)
    clear hb2 a2 B1 P1 T1 S1 O1
    go_wp2_with fail
    refine (script_any pt ps t s _ _ ct cs _ rfl rfl T2.out S2.out HC.out HCS.out.1 HL.out HCS.out.2).mono ?_
    rintro e w3 ⟨r, cr, rfl, hr, hcr, hlr, hb3⟩
    rw [(tC_ok HAB.out).1, (tC_ok HAB.out).2]
    rw [sD_ok HAB.out] at hr hlr ⊢
    have a3 := up_alloc (up_alloc (Below.refl w3.heap.size w3) (.cells #[.slice r (Dif.pof (Dif.al t s)).length cr] 24 (0, 0))) (.cells #[.int .i64 0, .int .i64 0] 27 (0, 0))
    have B3 := Lib.hid (up_call (up_call B2.out hb3) a3)
    have P3 := Lib.hid ((P2.out.mono hb3).mono a3)
    have R3 := Lib.hid (hr.mono a3)
    have O3 := Lib.hid ((O2.out.up hb3).up a3)
    have f3 := ((F2.out.up hb3).up a3).c0
    have c3 := ((One.new w3 (.slice r (Dif.pof (Dif.al t s)).length cr) 24 w3.heap.size rfl).alloc (.cells #[.int .i64 0, .int .i64 0] 27 (0, 0))).c
    clear hr hcr hlr hb3 a3 B2 P2 T2 S2 O2 F2
    go_wp2_with fail
    refine (cost_any r (Dif.pof (Dif.al t s)) _ cr _ rfl R3.out (by omega) HV2.out).mono ?_
    rintro e w4 ⟨rfl, hb4⟩
    have B4 := Lib.hid (up_call B3.out hb4)
    have P4 := Lib.hid (P3.out.mono hb4)
    have o4 := (O3.out.up hb4).c
    rw [SOH.out]
    have g1 : (dD t s == dD t s) = true := beq_self_eq_true _
    clear hb4 B3 P3 O3 R3
    go_wp2_with fail
    refine (cost_any p hs _ cap _ rfl P4.out (by omega) HV.out).mono ?_
    rintro e w5 ⟨rfl, hb5⟩
    have B5 := Lib.hid (up_call B4.out hb5)
    have g2 : decide (dD t s ≤ ((Tp.co hs : Nat) : Int)) = true := by rw [decide_eq_true_iff]; exact LDH.out
    clear hb5 B4 P4
    go_wp2_with fail
    refine (moved_any _).mono ?_
    rintro e w6 ⟨rfl, hb6⟩
    have B6 := Lib.hid (up_call B5.out hb6)
    clear hb6 B5
    go_wp2_with fail
    go_ret
    exact ⟨rfl, B6.out⟩
  · have hne : (Tp.aC hs t != 0) = true := by simpa using ha
    go_wp2_with fail
    refine (moved_any _).mono ?_
    rintro e w5 ⟨rfl, hb5⟩
    have B5 := Lib.hid (up_call B1.out hb5)
    clear hb5 B1
    go_wp2_with fail
    go_ret
    exact ⟨rfl, B5.out⟩
end Go.Proofs.Ytidjdoamnbilaaa
