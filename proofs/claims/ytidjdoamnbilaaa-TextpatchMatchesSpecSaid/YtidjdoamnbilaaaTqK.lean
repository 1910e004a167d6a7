/-
  The law TextpatchMatchesSpec, walked.
-/
import Derived.Test.YtidjdoamnbilaaaTqI
namespace Go.Proofs.Ytidjdoamnbilaaa
open Go.RowKit

theorem aT_small {hs : List Tp.H} {t : List ByteArray} : (∀ x ∈ Tp.aT hs t, x.size ≤ 140737488351232) ∧ (Tp.aT hs t).length ≤ 281474976710656 := by
  unfold Tp.aT
  by_cases h : Tp.aC hs t = 0
  · have ok := Tp.aC_zero.1 h
    rw [if_pos h]
    have := Tp.ap_small ok.vp ok.vt 0 0
    rw [List.drop_zero] at this
    exact ⟨this, by have := ok.len; omega⟩
  · rw [if_neg h]; exact ⟨by simp, by simp⟩
theorem vT_len {hs : List Tp.H} : (Tp.vT hs).length ≤ 130 := by
  unfold Tp.vT
  by_cases h : Tp.vC' hs = 0
  · rw [if_pos h]; exact (vT_zero h).2.2.len
  · rw [if_neg h]; simp

set_option maxRecDepth 100000 in
set_option maxHeartbeats 8000000 in
theorem tpspec_walk (p : Option Addr) (hs : List Tp.H) (cap : Nat) (pt : Option Addr) (t : List ByteArray) (ct : Nat) (w : World) (hp : Ptc w p hs) (_hc : p = none → cap = 0) (hl : hs.length ≤ 2513169434845) (_hlc : hs.length ≤ cap) (_hf : ∀ k ∈ hs, fits63 k.at')
    (ht : Sts w pt t) (hct : pt = none → ct = 0) (_hlt : t.length ≤ 8796093021952) (hlc' : t.length ≤ ct) :
    Calls Try.prog 3 #[.agg #[.slice p hs.length cap], .slice pt t.length ct] w (TPost w) := by
  have b0 := up_alloc (Below.refl w.heap.size w) (.cells #[.slice p hs.length cap] 24 (0, 0))
  have P0 := Lib.hid (hp.mono b0)
  have T0 := Lib.hid (ht.mono b0)
  have O0 := Lib.hid (One.new w (.slice p hs.length cap) 24 w.heap.size rfl)
  have B0 := Lib.hid b0
  have HC := Lib.hid hct
  have HL := Lib.hid hlc'
  clear hp ht b0 hct hlc'
  obtain ⟨aC, eaC⟩ : ∃ x, x = Tp.aC hs t := ⟨_, rfl⟩
  obtain ⟨aI, eaI⟩ : ∃ x, x = Tp.aI hs t := ⟨_, rfl⟩
  obtain ⟨aT, eaT⟩ : ∃ x, x = Tp.aT hs t := ⟨_, rfl⟩
  obtain ⟨vC, evC⟩ : ∃ x, x = Tp.vC' hs := ⟨_, rfl⟩
  obtain ⟨vI, evI⟩ : ∃ x, x = Tp.vI' hs := ⟨_, rfl⟩
  obtain ⟨vT, evT⟩ : ∃ x, x = Tp.vT hs := ⟨_, rfl⟩
  obtain ⟨pC, epC⟩ : ∃ x, x = Tp.pC hs := ⟨_, rfl⟩
  obtain ⟨pI, epI⟩ : ∃ x, x = Tp.pI hs := ⟨_, rfl⟩
  have AP : Hid (∀ W, Ptc W p hs → Sts W pt t → Calls Try.prog 12 #[.agg #[.slice p hs.length cap], .slice pt t.length ct] W (fun e w' => ∃ v, e = .returned (.tuple #[v, .agg #[.int .i64 aC, .int .i64 aI]]) ∧ OwnS W.heap.size w' v aT ∧ Below W.heap.size W w')) :=
    Lib.hid (fun W h1 h2 => by rw [eaC, eaI, eaT]; exact tpApply_any p pt hs t _ cap _ ct W rfl rfl h1 hl h2 HC.out HL.out)
  have RP : Hid (∀ W, Ptc W p hs → Sts W pt t → Calls Try.prog 13 #[.agg #[.slice p hs.length cap], .slice pt t.length ct] W (fun e w' => ∃ v, e = .returned (.tuple #[v, .agg #[.int .i64 aC, .int .i64 aI]]) ∧ OwnS W.heap.size w' v aT ∧ Below W.heap.size W w')) :=
    Lib.hid (fun W h1 h2 => by rw [eaC, eaI, eaT]; exact refApply_any p pt hs t _ cap _ ct W rfl rfl h1 hl h2 HC.out HL.out)
  have IV : Hid (∀ W, Ptc W p hs → Calls Try.prog 14 #[.agg #[.slice p hs.length cap]] W (fun e w' => ∃ q c, e = .returned (.tuple #[.agg #[.slice q vT.length c], .agg #[.int .i64 vC, .int .i64 vI]]) ∧ Ptc w' q vT ∧ (q = none → c = 0) ∧ vT.length ≤ c ∧ Below W.heap.size W w')) :=
    Lib.hid (fun W h1 => by rw [evC, evI, evT]; exact tpInvert_any p hs _ cap W rfl h1 hl)
  have RI : Hid (∀ W, Ptc W p hs → Calls Try.prog 15 #[.agg #[.slice p hs.length cap]] W (fun e w' => ∃ q c, e = .returned (.tuple #[.agg #[.slice q vT.length c], .agg #[.int .i64 vC, .int .i64 vI]]) ∧ Ptc w' q vT ∧ (q = none → c = 0) ∧ vT.length ≤ c ∧ Below W.heap.size W w')) :=
    Lib.hid (fun W h1 => by rw [evC, evI, evT]; exact refInvert_any p hs _ cap W rfl h1 hl)
  have PV : Hid (∀ W, Ptc W p hs → Calls Try.prog 16 #[.agg #[.slice p hs.length cap]] W (BPost (.agg #[.int .i64 pC, .int .i64 pI]) W)) :=
    Lib.hid (fun W h1 => by rw [epC, epI]; exact tpValidate_any p hs _ cap W rfl h1 hl)
  have RV : Hid (∀ W, Ptc W p hs → Calls Try.prog 17 #[.agg #[.slice p hs.length cap]] W (BPost (.agg #[.int .i64 pC, .int .i64 pI]) W)) :=
    Lib.hid (fun W h1 => by rw [epC, epI]; exact refPatchFault_any p hs _ cap W rfl h1 hl)
  have sm := aT_small (hs := hs) (t := t)
  have lv := vT_len (hs := hs)
  rw [← eaT] at sm
  rw [← evT] at lv
  have SM := Lib.hid sm
  clear eaC eaI eaT evC evI evT epC epI sm
  go_enter Try.func3, Try.ntmps3
  go_wp2_with fail
  refine (AP.out _ P0.out T0.out).mono ?_
  rintro e w1 ⟨vs, rfl, own1, hb1⟩
  obtain ⟨ps, cs, rfl, -, -⟩ := ownS_shape own1
  have a1 := up_alloc (Below.refl w1.heap.size w1) (.cells #[.int .i64 aC, .int .i64 aI] 27 (0, 0))
  have B1 := Lib.hid (up_call (up_call B0.out hb1) a1)
  have P1 := Lib.hid ((P0.out.mono hb1).mono a1)
  have T1 := Lib.hid ((T0.out.mono hb1).mono a1)
  have O1 := Lib.hid ((O0.out.up hb1).up a1)
  have F1 := Lib.hid (Flt.new w1 aC aI 27)
  have S1 := Lib.hid ((ownS_sts own1 SM.out.1 SM.out.2).mono a1)
  have oc1 := O1.out.c
  clear own1 hb1 a1 B0 P0 T0 O0
  go_wp2_with fail
  refine (RP.out _ P1.out T1.out).mono ?_
  rintro e w2 ⟨vr, rfl, own2, hb2⟩
  obtain ⟨pr, cr, rfl, -, -⟩ := ownS_shape own2
  have a2 := up_alloc (Below.refl w2.heap.size w2) (.cells #[.int .i64 aC, .int .i64 aI] 27 (0, 0))
  have B2 := Lib.hid (up_call (up_call B1.out hb2) a2)
  have P2 := Lib.hid ((P1.out.mono hb2).mono a2)
  have O2 := Lib.hid ((O1.out.up hb2).up a2)
  have F2 := Lib.hid ((F1.out.up hb2).up a2)
  have G2 := Lib.hid (Flt.new w2 aC aI 27)
  have S2 := Lib.hid ((S1.out.mono hb2).mono a2)
  have R2 := Lib.hid ((ownS_sts own2 SM.out.1 SM.out.2).mono a2)
  have oc2 := O2.out.c
  clear own2 hb2 a2 B1 P1 T1 O1 F1 S1 oc1
  go_wp2_with fail
  refine (IV.out _ P2.out).mono ?_
  rintro e w3 ⟨q, cq, rfl, hq, -, -, hb3⟩
  have a3 := up_alloc (up_alloc (Below.refl w3.heap.size w3) (.cells #[.slice q vT.length cq] 24 (0, 0))) (.cells #[.int .i64 vC, .int .i64 vI] 27 (0, 0))
  have B3 := Lib.hid (up_call (up_call B2.out hb3) a3)
  have P3 := Lib.hid ((P2.out.mono hb3).mono a3)
  have O3 := Lib.hid ((O2.out.up hb3).up a3)
  have F3 := Lib.hid ((F2.out.up hb3).up a3)
  have G3 := Lib.hid ((G2.out.up hb3).up a3)
  have S3 := Lib.hid ((S2.out.mono hb3).mono a3)
  have R3 := Lib.hid ((R2.out.mono hb3).mono a3)
  have Q3 := Lib.hid (hq.mono a3)
  have C3 := Lib.hid ((One.new w3 (.slice q vT.length cq) 24 w3.heap.size rfl).alloc (.cells #[.int .i64 vC, .int .i64 vI] 27 (0, 0)))
  have D3 : Hid (Flt ((w3.alloc (.cells #[.slice q vT.length cq] 24 (0, 0))).alloc (.cells #[.int .i64 vC, .int .i64 vI] 27 (0, 0))) (w3.heap.size + 1) vC vI) := by
    have := Flt.new (w3.alloc (.cells #[.slice q vT.length cq] 24 (0, 0))) vC vI 27
    rwa [World.size_alloc] at this
  have oc3 := O3.out.c
  clear hq hb3 a3 B2 P2 O2 F2 G2 S2 R2 oc2
  go_wp2_with fail
  refine (RI.out _ P3.out).mono ?_
  rintro e w4 ⟨r, cr', rfl, hr, -, -, hb4⟩
  have a4 := up_alloc (up_alloc (Below.refl w4.heap.size w4) (.cells #[.slice r vT.length cr'] 24 (0, 0))) (.cells #[.int .i64 vC, .int .i64 vI] 27 (0, 0))
  have B4 := Lib.hid (up_call (up_call B3.out hb4) a4)
  have P4 := Lib.hid ((P3.out.mono hb4).mono a4)
  have O4 := Lib.hid ((O3.out.up hb4).up a4)
  have F4 := Lib.hid ((F3.out.up hb4).up a4)
  have G4 := Lib.hid ((G3.out.up hb4).up a4)
  have S4 := Lib.hid ((S3.out.mono hb4).mono a4)
  have R4 := Lib.hid ((R3.out.mono hb4).mono a4)
  have Q4 := Lib.hid ((Q3.out.mono hb4).mono a4)
  have C4 := Lib.hid ((C3.out.up hb4).up a4)
  have D4 := Lib.hid ((D3.out.up hb4).up a4)
  have X4 := Lib.hid (hr.mono a4)
  have Y4 := Lib.hid ((One.new w4 (.slice r vT.length cr') 24 w4.heap.size rfl).alloc (.cells #[.int .i64 vC, .int .i64 vI] 27 (0, 0)))
  have Z4 : Hid (Flt ((w4.alloc (.cells #[.slice r vT.length cr'] 24 (0, 0))).alloc (.cells #[.int .i64 vC, .int .i64 vI] 27 (0, 0))) (w4.heap.size + 1) vC vI) := by
    have := Flt.new (w4.alloc (.cells #[.slice r vT.length cr'] 24 (0, 0))) vC vI 27
    rwa [World.size_alloc] at this
  clear hr hb4 a4 B3 P3 O3 F3 G3 S3 R3 Q3 C3 D3 oc3 AP RP IV RI
  go_wp2_with fail
  obtain ⟨W, hW⟩ : ∃ W, W = (w4.alloc (.cells #[.slice r vT.length cr'] 24 (0, 0))).alloc (.cells #[.int .i64 vC, .int .i64 vI] 27 (0, 0)) := ⟨_, rfl⟩
  rw [← hW] at B4 P4 O4 F4 G4 S4 R4 Q4 C4 D4 X4 Y4 Z4 ⊢
  clear hW
  have CV := fun n => over_call (PV.out (over W n) (P4.out.mono (over_below _ n)))
  have CR := fun n => over_call (RV.out (over W n) (P4.out.mono (over_below _ n)))
  have CS := fun n => over_quiet (equal_any ps pr aT aT _ _ cs cr (over W n) rfl rfl (S4.out.mono (over_below _ n)) (R4.out.mono (over_below _ n)))
  have CP := fun n => over_call (patchEq_any q r vT vT _ _ cq cr' (over W n) rfl rfl (Q4.out.mono (over_below _ n)) (X4.out.mono (over_below _ n)) (by omega))
  have CX := fun n => over_call ((replaced_any (over W n)).mono fun e w' h => (⟨h.1, h.2⟩ : BPost (.bool true) (over W n) e w'))
  rw [eqS_true rfl] at CS
  rw [eqP_true rfl] at CP
  refine over_lit (by kernel_rfl) (by kernel_rfl) ?_
  have r1 := over_cell O4.out.lt O4.out.c
  have r2 := over_cell F4.out.lt F4.out.c0
  have r3 := over_cell F4.out.lt F4.out.c1
  have r4 := over_cell G4.out.lt G4.out.c0
  have r5 := over_cell G4.out.lt G4.out.c1
  have r6 := over_cell C4.out.lt C4.out.c
  have r7 := over_cell Y4.out.lt Y4.out.c
  have r8 := over_cell D4.out.lt D4.out.c0
  have r9 := over_cell D4.out.lt D4.out.c1
  have r10 := over_cell Z4.out.lt Z4.out.c0
  have r11 := over_cell Z4.out.lt Z4.out.c1
  repeat (go_big_quiet_step (first | (go_at_call 16; exact CV _) | (go_at_call 17; exact CR _) | (go_at_call 18; exact CS _) | (go_at_call 19; exact CP _) | (go_at_call 20; exact CX _)))
  refine wpQuiet_nil ?_
  rintro _ ⟨nq, rfl⟩
  clear r1 r2 r3 r4 r5 r6 r7 r8 r9 r10 r11 CV CR CS CP CX
  go_wp2_with fail
  go_ret
  exact ⟨rfl, up_call B4.out (over_below _ _)⟩
end Go.Proofs.Ytidjdoamnbilaaa
