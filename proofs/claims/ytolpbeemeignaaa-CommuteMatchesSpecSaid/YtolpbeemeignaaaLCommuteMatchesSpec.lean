/-
  The statement 'CommuteMatchesSpec' of this seat holds: for every input within the form's reach the law returns true and its arguments read as they did. No further condition.
-/
import Derived.Test.YtolpbeemeignaaaCrB
import Derived.Test.YtolpbeemeignaaaCmF
import Derived.Test.YtolpbeemeignaaaPat
import Derived.Test.YtolpbeemeignaaaRows
import Derived.WalkKit
import Derived.ProofKit
import Derived.OpenShut
import Derived.ShutString
import Derived.ChangeOld
import Derived.Below
import Derived.SizedLaws
namespace Go.Proofs.Ytolpbeemeignaaa
open Go.RowKit
set_option maxRecDepth 4000

theorem eA_len (p q : List Tp.H) : (Tp.eA1 p q).length ≤ 130 ∧ (Tp.eA2 p q).length ≤ 130 := by
  cases h : Tp.eB p q
  · have e1 : Tp.eA1 p q = [] := if_neg (by rw [h]; decide)
    have e2 : Tp.eA2 p q = [] := if_neg (by rw [h]; decide)
    rw [e1, e2]; exact ⟨Nat.zero_le _, Nat.zero_le _⟩
  · obtain ⟨k, -, e1, e2⟩ := Tp.e_ok h
    rw [e1, e2]; exact ⟨k.2.1.len, k.2.2.len⟩
theorem rA_len (p q : List Tp.H) : (Tp.rA p q).length ≤ 130 := by
  cases h : Tp.rB p q
  · have e1 : Tp.rA p q = [] := if_neg (by rw [h]; decide)
    rw [e1]; exact Nat.zero_le _
  · have k : Tp.rOk p q := (@decide_eq_true_iff _ (Classical.propDecidable _)).1 h
    have e1 : Tp.rA p q = Tp.bh p (Tp.cg q) := if_pos h
    rw [e1]; exact k.2.2.2.len
set_option maxRecDepth 100000 in
set_option maxHeartbeats 8000000 in
theorem cmspec_walk (p : Option Addr) (hs : List Tp.H) (cap : Nat) (q : Option Addr) (ks : List Tp.H) (cap' : Nat) (w : World) (hp : Ptc w p hs) (_hcp : p = none → cap = 0) (hlp : hs.length ≤ 2513169434845) (_hlcp : hs.length ≤ cap) (_hfp : ∀ k ∈ hs, fits63 k.at') (hq : Ptc w q ks) (_hcq : q = none → cap' = 0) (hlq : ks.length ≤ 2513169434845) (_hlcq : ks.length ≤ cap') (_hfq : ∀ k ∈ ks, fits63 k.at') :
    Calls Try.prog 3 #[.agg #[.slice p hs.length cap], .agg #[.slice q ks.length cap']] w (TPost w) := by
  have b0 := up_alloc (up_alloc (Below.refl w.heap.size w) (.cells #[.slice p hs.length cap] 24 (0, 0))) (.cells #[.slice q ks.length cap'] 24 (0, 0))
  have Op_0 := Lib.hid (((One.new w (.slice p hs.length cap) 24 (w.heap.size) (by simp)).alloc (.cells #[.slice q ks.length cap'] 24 (0, 0))))
  have Oq_0 := Lib.hid ((One.new (w.alloc (.cells #[.slice p hs.length cap] 24 (0, 0))) (.slice q ks.length cap') 24 (w.heap.size + 1) (by simp)))
  have Pp_0 := Lib.hid (hp.mono b0)
  have Pq_0 := Lib.hid (hq.mono b0)
  have B0 := Lib.hid b0
  clear hp hq b0
  go_enter Try.func3, Try.ntmps3
  go_wp2_with fail
  refine (cmCommute_any p q hs ks _ cap _ cap' _ rfl rfl Pp_0.out Pq_0.out hlp hlq).mono ?_
  rintro e w1 ⟨pa, cpa, pb, cpb, rfl, hpa, -, -, hpb, -, -, hb⟩
  have a1 := up_alloc (up_alloc (up_alloc (Below.refl w1.heap.size w1) (.cells #[.slice pa (Tp.eA1 hs ks).length cpa] 24 (0, 0))) (.cells #[.slice pb (Tp.eA2 hs ks).length cpb] 24 (0, 0))) (.cells #[.int .i64 (Tp.eC hs ks), .int .i64 (Tp.eI hs ks)] 26 (0, 0))
  have A_1 := Lib.hid ((((One.new w1 (.slice pa (Tp.eA1 hs ks).length cpa) 24 (w1.heap.size) (by simp)).alloc (.cells #[.slice pb (Tp.eA2 hs ks).length cpb] 24 (0, 0))).alloc (.cells #[.int .i64 (Tp.eC hs ks), .int .i64 (Tp.eI hs ks)] 26 (0, 0))))
  have Bb_1 := Lib.hid (((One.new (w1.alloc (.cells #[.slice pa (Tp.eA1 hs ks).length cpa] 24 (0, 0))) (.slice pb (Tp.eA2 hs ks).length cpb) 24 (w1.heap.size + 1) (by simp)).alloc (.cells #[.int .i64 (Tp.eC hs ks), .int .i64 (Tp.eI hs ks)] 26 (0, 0))))
  have F8_1 := Lib.hid ((by have := Flt.new ((w1.alloc (.cells #[.slice pa (Tp.eA1 hs ks).length cpa] 24 (0, 0))).alloc (.cells #[.slice pb (Tp.eA2 hs ks).length cpb] 24 (0, 0))) (Tp.eC hs ks) (Tp.eI hs ks) 26; simpa using this : Flt (((w1.alloc (.cells #[.slice pa (Tp.eA1 hs ks).length cpa] 24 (0, 0))).alloc (.cells #[.slice pb (Tp.eA2 hs ks).length cpb] 24 (0, 0))).alloc (.cells #[.int .i64 (Tp.eC hs ks), .int .i64 (Tp.eI hs ks)] 26 (0, 0))) (w1.heap.size + 1 + 1) (Tp.eC hs ks) (Tp.eI hs ks)))
  have Op_1 := Lib.hid ((Op_0.out.up hb).up a1)
  have Oq_1 := Lib.hid ((Oq_0.out.up hb).up a1)
  have Pp_1 := Lib.hid ((Pp_0.out.mono hb).mono a1)
  have Pq_1 := Lib.hid ((Pq_0.out.mono hb).mono a1)
  have Ppa_1 := Lib.hid ((hpa.self).mono a1)
  have Ppb_1 := Lib.hid ((hpb.self).mono a1)
  have B1 := Lib.hid (up_call (up_call B0.out hb) a1)
  clear hb a1 Op_0 Oq_0 Pp_0 Pq_0 B0 
  clear hpa hpb
  have x1_0 := Op_1.out.c
  have x1_1 := Oq_1.out.c
  go_wp2_with fail
  refine (refCommute_any p q hs ks _ cap _ cap' _ rfl rfl Pp_1.out Pq_1.out hlp hlq).mono ?_
  rintro e w2 ⟨pc, cpc, pd, cpd, rfl, hpc, hpd, hb⟩
  have a2 := up_alloc (up_alloc (up_alloc (Below.refl w2.heap.size w2) (.cells #[.slice pc (Tp.eA1 hs ks).length cpc] 24 (0, 0))) (.cells #[.slice pd (Tp.eA2 hs ks).length cpd] 24 (0, 0))) (.cells #[.int .i64 (Tp.eC hs ks), .int .i64 (Tp.eI hs ks)] 26 (0, 0))
  have C_2 := Lib.hid ((((One.new w2 (.slice pc (Tp.eA1 hs ks).length cpc) 24 (w2.heap.size) (by simp)).alloc (.cells #[.slice pd (Tp.eA2 hs ks).length cpd] 24 (0, 0))).alloc (.cells #[.int .i64 (Tp.eC hs ks), .int .i64 (Tp.eI hs ks)] 26 (0, 0))))
  have D_2 := Lib.hid (((One.new (w2.alloc (.cells #[.slice pc (Tp.eA1 hs ks).length cpc] 24 (0, 0))) (.slice pd (Tp.eA2 hs ks).length cpd) 24 (w2.heap.size + 1) (by simp)).alloc (.cells #[.int .i64 (Tp.eC hs ks), .int .i64 (Tp.eI hs ks)] 26 (0, 0))))
  have F12_2 := Lib.hid ((by have := Flt.new ((w2.alloc (.cells #[.slice pc (Tp.eA1 hs ks).length cpc] 24 (0, 0))).alloc (.cells #[.slice pd (Tp.eA2 hs ks).length cpd] 24 (0, 0))) (Tp.eC hs ks) (Tp.eI hs ks) 26; simpa using this : Flt (((w2.alloc (.cells #[.slice pc (Tp.eA1 hs ks).length cpc] 24 (0, 0))).alloc (.cells #[.slice pd (Tp.eA2 hs ks).length cpd] 24 (0, 0))).alloc (.cells #[.int .i64 (Tp.eC hs ks), .int .i64 (Tp.eI hs ks)] 26 (0, 0))) (w2.heap.size + 1 + 1) (Tp.eC hs ks) (Tp.eI hs ks)))
  have Op_2 := Lib.hid ((Op_1.out.up hb).up a2)
  have Oq_2 := Lib.hid ((Oq_1.out.up hb).up a2)
  have Pp_2 := Lib.hid ((Pp_1.out.mono hb).mono a2)
  have Pq_2 := Lib.hid ((Pq_1.out.mono hb).mono a2)
  have Ppa_2 := Lib.hid ((Ppa_1.out.mono hb).mono a2)
  have Ppb_2 := Lib.hid ((Ppb_1.out.mono hb).mono a2)
  have A_2 := Lib.hid ((A_1.out.up hb).up a2)
  have Bb_2 := Lib.hid ((Bb_1.out.up hb).up a2)
  have F8_2 := Lib.hid ((F8_1.out.up hb).up a2)
  have Ppc_2 := Lib.hid ((hpc).mono a2)
  have Ppd_2 := Lib.hid ((hpd).mono a2)
  have B2 := Lib.hid (up_call (up_call B1.out hb) a2)
  clear hb a2 Op_1 Oq_1 Pp_1 Pq_1 Ppa_1 Ppb_1 A_1 Bb_1 F8_1 B1 x1_0 x1_1
  clear hpc hpd
  have x2_0 := Op_2.out.c
  have x2_1 := Oq_2.out.c
  go_wp2_with fail
  refine (cmRebase_any p q hs ks _ cap _ cap' _ rfl rfl Pp_2.out Pq_2.out hlp hlq).mono ?_
  rintro e w3 ⟨px, cpx, rfl, hpx, -, -, hb⟩
  have a3 := up_alloc (up_alloc (Below.refl w3.heap.size w3) (.cells #[.slice px (Tp.rA hs ks).length cpx] 24 (0, 0))) (.cells #[.int .i64 (Tp.rC hs ks), .int .i64 (Tp.rI hs ks)] 26 (0, 0))
  have X_3 := Lib.hid (((One.new w3 (.slice px (Tp.rA hs ks).length cpx) 24 (w3.heap.size) (by simp)).alloc (.cells #[.int .i64 (Tp.rC hs ks), .int .i64 (Tp.rI hs ks)] 26 (0, 0))))
  have F15_3 := Lib.hid ((by have := Flt.new (w3.alloc (.cells #[.slice px (Tp.rA hs ks).length cpx] 24 (0, 0))) (Tp.rC hs ks) (Tp.rI hs ks) 26; simpa using this : Flt ((w3.alloc (.cells #[.slice px (Tp.rA hs ks).length cpx] 24 (0, 0))).alloc (.cells #[.int .i64 (Tp.rC hs ks), .int .i64 (Tp.rI hs ks)] 26 (0, 0))) (w3.heap.size + 1) (Tp.rC hs ks) (Tp.rI hs ks)))
  have Op_3 := Lib.hid ((Op_2.out.up hb).up a3)
  have Oq_3 := Lib.hid ((Oq_2.out.up hb).up a3)
  have Pp_3 := Lib.hid ((Pp_2.out.mono hb).mono a3)
  have Pq_3 := Lib.hid ((Pq_2.out.mono hb).mono a3)
  have Ppa_3 := Lib.hid ((Ppa_2.out.mono hb).mono a3)
  have Ppb_3 := Lib.hid ((Ppb_2.out.mono hb).mono a3)
  have A_3 := Lib.hid ((A_2.out.up hb).up a3)
  have Bb_3 := Lib.hid ((Bb_2.out.up hb).up a3)
  have F8_3 := Lib.hid ((F8_2.out.up hb).up a3)
  have Ppc_3 := Lib.hid ((Ppc_2.out.mono hb).mono a3)
  have Ppd_3 := Lib.hid ((Ppd_2.out.mono hb).mono a3)
  have C_3 := Lib.hid ((C_2.out.up hb).up a3)
  have D_3 := Lib.hid ((D_2.out.up hb).up a3)
  have F12_3 := Lib.hid ((F12_2.out.up hb).up a3)
  have Ppx_3 := Lib.hid ((hpx).mono a3)
  have B3 := Lib.hid (up_call (up_call B2.out hb) a3)
  clear hb a3 Op_2 Oq_2 Pp_2 Pq_2 Ppa_2 Ppb_2 A_2 Bb_2 F8_2 Ppc_2 Ppd_2 C_2 D_2 F12_2 B2 x2_0 x2_1
  clear hpx
  have x3_0 := Op_3.out.c
  have x3_1 := Oq_3.out.c
  go_wp2_with fail
  refine (refRebase_any p q hs ks _ cap _ cap' _ rfl rfl Pp_3.out Pq_3.out hlp hlq).mono ?_
  rintro e w4 ⟨py, cpy, rfl, hpy, -, -, hb⟩
  have a4 := up_alloc (up_alloc (Below.refl w4.heap.size w4) (.cells #[.slice py (Tp.rA hs ks).length cpy] 24 (0, 0))) (.cells #[.int .i64 (Tp.rC hs ks), .int .i64 (Tp.rI hs ks)] 26 (0, 0))
  have Y_4 := Lib.hid (((One.new w4 (.slice py (Tp.rA hs ks).length cpy) 24 (w4.heap.size) (by simp)).alloc (.cells #[.int .i64 (Tp.rC hs ks), .int .i64 (Tp.rI hs ks)] 26 (0, 0))))
  have F18_4 := Lib.hid ((by have := Flt.new (w4.alloc (.cells #[.slice py (Tp.rA hs ks).length cpy] 24 (0, 0))) (Tp.rC hs ks) (Tp.rI hs ks) 26; simpa using this : Flt ((w4.alloc (.cells #[.slice py (Tp.rA hs ks).length cpy] 24 (0, 0))).alloc (.cells #[.int .i64 (Tp.rC hs ks), .int .i64 (Tp.rI hs ks)] 26 (0, 0))) (w4.heap.size + 1) (Tp.rC hs ks) (Tp.rI hs ks)))
  have Op_4 := Lib.hid ((Op_3.out.up hb).up a4)
  have Oq_4 := Lib.hid ((Oq_3.out.up hb).up a4)
  have Pp_4 := Lib.hid ((Pp_3.out.mono hb).mono a4)
  have Pq_4 := Lib.hid ((Pq_3.out.mono hb).mono a4)
  have Ppa_4 := Lib.hid ((Ppa_3.out.mono hb).mono a4)
  have Ppb_4 := Lib.hid ((Ppb_3.out.mono hb).mono a4)
  have A_4 := Lib.hid ((A_3.out.up hb).up a4)
  have Bb_4 := Lib.hid ((Bb_3.out.up hb).up a4)
  have F8_4 := Lib.hid ((F8_3.out.up hb).up a4)
  have Ppc_4 := Lib.hid ((Ppc_3.out.mono hb).mono a4)
  have Ppd_4 := Lib.hid ((Ppd_3.out.mono hb).mono a4)
  have C_4 := Lib.hid ((C_3.out.up hb).up a4)
  have D_4 := Lib.hid ((D_3.out.up hb).up a4)
  have F12_4 := Lib.hid ((F12_3.out.up hb).up a4)
  have Ppx_4 := Lib.hid ((Ppx_3.out.mono hb).mono a4)
  have X_4 := Lib.hid ((X_3.out.up hb).up a4)
  have F15_4 := Lib.hid ((F15_3.out.up hb).up a4)
  have Ppy_4 := Lib.hid ((hpy).mono a4)
  have B4 := Lib.hid (up_call (up_call B3.out hb) a4)
  clear hb a4 Op_3 Oq_3 Pp_3 Pq_3 Ppa_3 Ppb_3 A_3 Bb_3 F8_3 Ppc_3 Ppd_3 C_3 D_3 F12_3 Ppx_3 X_3 F15_3 B3 x3_0 x3_1
  clear hpy
  clear Op_4 Oq_4 Pp_4 Pq_4
  have gb1 : (Tp.eB hs ks == Tp.eB hs ks) = true := by simp
  have gb2 : (Tp.rB hs ks == Tp.rB hs ks) = true := by simp
  have x4_0 := A_4.out.c
  have x4_1 := C_4.out.c
  go_wp2_with fail
  refine (patchEq_any pa pc (Tp.eA1 hs ks) (Tp.eA1 hs ks) _ _ cpa cpc _ rfl rfl Ppa_4.out Ppc_4.out (by have := (eA_len hs ks).1; omega)).mono ?_
  rintro e w5 ⟨rfl, hb⟩
  rw [eqP_true (rfl)]
  have Ppa_5 := Lib.hid (Ppa_4.out.mono hb)
  have Ppb_5 := Lib.hid (Ppb_4.out.mono hb)
  have A_5 := Lib.hid (A_4.out.up hb)
  have Bb_5 := Lib.hid (Bb_4.out.up hb)
  have F8_5 := Lib.hid (F8_4.out.up hb)
  have Ppc_5 := Lib.hid (Ppc_4.out.mono hb)
  have Ppd_5 := Lib.hid (Ppd_4.out.mono hb)
  have C_5 := Lib.hid (C_4.out.up hb)
  have D_5 := Lib.hid (D_4.out.up hb)
  have F12_5 := Lib.hid (F12_4.out.up hb)
  have Ppx_5 := Lib.hid (Ppx_4.out.mono hb)
  have X_5 := Lib.hid (X_4.out.up hb)
  have F15_5 := Lib.hid (F15_4.out.up hb)
  have Ppy_5 := Lib.hid (Ppy_4.out.mono hb)
  have Y_5 := Lib.hid (Y_4.out.up hb)
  have F18_5 := Lib.hid (F18_4.out.up hb)
  have B5 := Lib.hid (up_call B4.out hb)
  clear hb  Ppa_4 Ppb_4 A_4 Bb_4 F8_4 Ppc_4 Ppd_4 C_4 D_4 F12_4 Ppx_4 X_4 F15_4 Ppy_4 Y_4 F18_4 B4 x4_0 x4_1
  have x5_0 := Bb_5.out.c
  have x5_1 := D_5.out.c
  go_wp2_with fail
  refine (patchEq_any pb pd (Tp.eA2 hs ks) (Tp.eA2 hs ks) _ _ cpb cpd _ rfl rfl Ppb_5.out Ppd_5.out (by have := (eA_len hs ks).2; omega)).mono ?_
  rintro e w6 ⟨rfl, hb⟩
  rw [eqP_true (rfl)]
  have Ppa_6 := Lib.hid (Ppa_5.out.mono hb)
  have Ppb_6 := Lib.hid (Ppb_5.out.mono hb)
  have A_6 := Lib.hid (A_5.out.up hb)
  have Bb_6 := Lib.hid (Bb_5.out.up hb)
  have F8_6 := Lib.hid (F8_5.out.up hb)
  have Ppc_6 := Lib.hid (Ppc_5.out.mono hb)
  have Ppd_6 := Lib.hid (Ppd_5.out.mono hb)
  have C_6 := Lib.hid (C_5.out.up hb)
  have D_6 := Lib.hid (D_5.out.up hb)
  have F12_6 := Lib.hid (F12_5.out.up hb)
  have Ppx_6 := Lib.hid (Ppx_5.out.mono hb)
  have X_6 := Lib.hid (X_5.out.up hb)
  have F15_6 := Lib.hid (F15_5.out.up hb)
  have Ppy_6 := Lib.hid (Ppy_5.out.mono hb)
  have Y_6 := Lib.hid (Y_5.out.up hb)
  have F18_6 := Lib.hid (F18_5.out.up hb)
  have B6 := Lib.hid (up_call B5.out hb)
  clear hb  Ppa_5 Ppb_5 A_5 Bb_5 F8_5 Ppc_5 Ppd_5 C_5 D_5 F12_5 Ppx_5 X_5 F15_5 Ppy_5 Y_5 F18_5 B5 x5_0 x5_1
  have x6_0 := X_6.out.c
  have x6_1 := Y_6.out.c
  have x6_2 := F8_6.out.c0
  have x6_3 := F8_6.out.c1
  have x6_4 := F12_6.out.c0
  have x6_5 := F12_6.out.c1
  go_wp2_with fail
  refine (patchEq_any px py (Tp.rA hs ks) (Tp.rA hs ks) _ _ cpx cpy _ rfl rfl Ppx_6.out Ppy_6.out (by have := rA_len hs ks; omega)).mono ?_
  rintro e w7 ⟨rfl, hb⟩
  rw [eqP_true (rfl)]
  have Ppa_7 := Lib.hid (Ppa_6.out.mono hb)
  have Ppb_7 := Lib.hid (Ppb_6.out.mono hb)
  have A_7 := Lib.hid (A_6.out.up hb)
  have Bb_7 := Lib.hid (Bb_6.out.up hb)
  have F8_7 := Lib.hid (F8_6.out.up hb)
  have Ppc_7 := Lib.hid (Ppc_6.out.mono hb)
  have Ppd_7 := Lib.hid (Ppd_6.out.mono hb)
  have C_7 := Lib.hid (C_6.out.up hb)
  have D_7 := Lib.hid (D_6.out.up hb)
  have F12_7 := Lib.hid (F12_6.out.up hb)
  have Ppx_7 := Lib.hid (Ppx_6.out.mono hb)
  have X_7 := Lib.hid (X_6.out.up hb)
  have F15_7 := Lib.hid (F15_6.out.up hb)
  have Ppy_7 := Lib.hid (Ppy_6.out.mono hb)
  have Y_7 := Lib.hid (Y_6.out.up hb)
  have F18_7 := Lib.hid (F18_6.out.up hb)
  have B7 := Lib.hid (up_call B6.out hb)
  clear hb  Ppa_6 Ppb_6 A_6 Bb_6 F8_6 Ppc_6 Ppd_6 C_6 D_6 F12_6 Ppx_6 X_6 F15_6 Ppy_6 Y_6 F18_6 B6 x6_0 x6_1 x6_2 x6_3 x6_4 x6_5
  have x7_0 := F15_7.out.c0
  have x7_1 := F15_7.out.c1
  have x7_2 := F18_7.out.c0
  have x7_3 := F18_7.out.c1
  go_wp2_with fail
  refine (exchanged_any _).mono ?_
  rintro e wz ⟨rfl, hbz⟩
  have BZ := Lib.hid (up_call B7.out hbz)
  clear hbz
  go_wp2_with fail
  go_ret
  exact ⟨rfl, BZ.out⟩
end Go.Proofs.Ytolpbeemeignaaa
namespace Go.Proofs.Ytolpbeemeignaaa.lawCommuteMatchesSpec
open Go.ChangeShapes Go.WideShapes Go.ChangeAt Go.RowKit
open Go.ChangeMaps (open_string shut_string)
set_option linter.unusedVariables false

theorem own : ownKnob Try.prog.godebug = none := by kernel_rfl
theorem laidOut : laidOutB Try.prog = true := by kernel_rfl
set_option maxRecDepth 100000 in
theorem lifted (os : Os) (started : os.Started) (H : Type) (enc : TypeId × Value → H) :
    ReturnsInHanded {} Try.checked os 3 .any (Rows.commuteMatchesSpecSpec.pre6 enc Try.prog Try.f3 Rows.commuteMatchesSpecRow.domain false) (Rows.commuteMatchesSpecSpec.post enc Try.prog Try.f3 false true false false) := by
  refine returnsInHanded_of_change_sized (C := Try.checked) own started (by kernel_rfl) Try.func3
    (ChangeSpec.witness6 (enc := enc) (C := Try.checked) false ⟨#[], #[.agg #[.slice none 0 0], .agg #[.slice none 0 0]], []⟩ 8 (by kernel_rfl) (by kernel_rfl) (by kernel_rfl) (by kernel_rfl)) ?_
  intro W base args ds gs before hval0 hW hcnd hsz0 _
  have hval : ∀ (j : Nat) t v, Try.f3.params[j]? = some t → args[j]? = some v → Value.okWide Try.prog W .any base t v := hval0
  have hW' := hW
  obtain ⟨p, q, hA0, hV, rfl, hfz, hnd⟩ := hW
  have hA : DataW.TrodAll enc Try.prog W 0 (fun _ => true) true Try.f3.params.toList args.toList ds p := hA0
  have hsz : ∀ (j : Nat) t d, Try.f3.params[j]? = some t → ds[j]? = some d → (d.weights Try.prog t).all (· ≤ 140737488351232) = true := by
    intro j t d ht hd
    refine List.all_eq_true.2 fun x hx => List.all_eq_true.1 hsz0 x (DataW.weights_mem_each (j := j) ?_ ?_ x hx)
    · rw [List.getElem?_append_left (by have := (Array.getElem?_eq_some_iff.1 ht).1; simpa using this)]; simpa using ht
    · rw [List.getElem?_append_left (List.getElem?_eq_some_iff.1 hd).1]; exact hd
  rw [Try.params3] at hA hval hsz
  obtain ⟨v0, vs0, d0, ds0, p0, q0, hargs, rfl, rfl, h0, r0⟩ := trodAll_cons hA
  obtain ⟨v1, vs1, d1, ds1, p1, q1, rfl, rfl, rfl, h1, r1⟩ := trodAll_cons r0
  obtain ⟨rfl, rfl, rfl⟩ := trodAll_nil r1
  obtain rfl : args = #[v0, v1] := by cases args; simp_all
  obtain ⟨rfl, rfl⟩ := trodVars_none hV
  have k0 := h0
  have lt0 : ∀ x ∈ p0, x.block < W.heap.size := by obtain ⟨m, hm⟩ := k0; exact DataW.trod_lt m _ _ _ hm
  obtain ⟨p0', l0, c0, rfl, b0, n0, z0, y0, f0⟩ := ptc_open (okWide_struct Try.underlying24 (hval 0 24 v0 rfl rfl)) h0.choose_spec (hsz 0 24 d0 rfl rfl)
  have k1 := h1
  have lt1 : ∀ x ∈ p1, x.block < W.heap.size := by obtain ⟨m, hm⟩ := k1; exact DataW.trod_lt m _ _ _ hm
  obtain ⟨p1', l1, c1, rfl, b1, n1, z1, y1, f1⟩ := ptc_open (okWide_struct Try.underlying24 (hval 1 24 v1 rfl rfl)) h1.choose_spec (hsz 1 24 d1 rfl rfl)
  clear hA0 hval0 hsz hsz0
  refine (cmspec_walk p0' l0 c0 p1' l1 c1 W b0 n0 z0 y0 f0 b1 n1 z1 y1 f1).mono fun e W' ⟨he, bel⟩ => ?_
  subst he
  exact ⟨_, rfl, _, _, _, [], _, [], hW', trodAll_mk1 (shut_bool Try.underlying4 _), (trodAll_cons_mk (Below.trod laidOut (by kernel_rfl) (of_decide_eq_true (by kernel_rfl)) k0 bel lt0) (trodAll_cons_mk (Below.trod laidOut (by kernel_rfl) (of_decide_eq_true (by kernel_rfl)) k1 bel lt1) trodAll_mk0)), rfl, bel.frame _, fun h => by cases h⟩

theorem over : Rows.commuteMatchesSpecRow.holds Try.pinned (OpenSpec.ofChange Rows.commuteMatchesSpecSpec) :=
  OpenClaim.holds_of_wide 3 Try.f3 rfl rfl rfl rfl rfl rfl rfl ⟨rfl, rfl, rfl, rfl, rfl⟩ rfl rfl rfl rfl rfl (by kernel_rfl) Try.func3 (by kernel_rfl)
    (of_decide_eq_true (by kernel_rfl)) (by unfold Func.isWrapper; first | (rw [if_pos (by decide +kernel)]; kernel_rfl) | (rw [if_neg (by decide +kernel)]; exact ⟨rfl, rfl⟩))
    (fun os started H enc _ => lifted os started H enc)

theorem proved : Rows.CommuteMatchesSpecSaid := over
end Go.Proofs.Ytolpbeemeignaaa.lawCommuteMatchesSpec
