/-
  The law TextpatchScripts, walked.
-/
import Derived.Test.YtbgnckbgpiajjaaCpU
import Derived.Test.YtbgnckbgpiajjaaDfH
import Derived.Test.YtbgnckbgpiajjaaOver
namespace Go.Proofs.Ytbgnckbgpiajjaa
open Go.RowKit
set_option maxRecDepth 4000

theorem sD_ok' {a b : List ByteArray} (h : okD a b) : sD a b = Dif.pof (Dif.al a b) := if_pos h
theorem sD_vp (a b : List ByteArray) : Tp.Vp (sD a b) := by
  by_cases h : okD a b
  · rw [sD_ok' h]; exact (Tp.script_ok h).1.vp
  · have e : sD a b = [] := if_neg h
    rw [e]; exact vp_nil
theorem sD_len (a b : List ByteArray) : (sD a b).length ≤ 130 := (sD_vp a b).len
theorem okD_of {a b : List ByteArray} (h : tC a b = 0) : okD a b := Decidable.byContradiction fun k => tC_not k h
theorem sc_comp {a b c : List ByteArray} (h1 : tC a b = 0) (h2 : tC b c = 0) : True ∧ Tp.aC (coT (sD a b) (sD b c)) a = 0 ∧ Tp.aT (coT (sD a b) (sD b c)) a = c ∧ tC a c = 0 ∧ dD a c ≤ ((Tp.co (coT (sD a b) (sD b c)) : Nat) : Int) ∧
    Tp.co (coT (sD a b) (sD b c)) ≤ Tp.co (sD a b) + Tp.co (sD b c) ∧ Tp.Vp (sD a b) ∧ Tp.Vp (sD b c) ∧ Tp.Vp (coT (sD a b) (sD b c)) := by
  have k1 := okD_of h1
  have k2 := okD_of h2
  have k3 : okD a c := ⟨k1.1, k2.2⟩
  obtain ⟨o1, o2, -⟩ := Tp.script_ok k1
  obtain ⟨p1, p2, -⟩ := Tp.script_ok k2
  rw [← sD_ok' k1] at o1 o2
  rw [← sD_ok' k2] at p1 p2
  have a1 := Tp.aC_zero.2 o1
  have e1 : Tp.aT (sD a b) a = b := (if_pos a1).trans o2
  have a2 : Tp.aC (sD b c) (Tp.aT (sD a b) a) = 0 := by rw [e1]; exact Tp.aC_zero.2 p1
  obtain ⟨g1, g2, g3, g4⟩ := co_comp a1 a2
  have e2 : Tp.aT (sD b c) (Tp.aT (sD a b) a) = c := by rw [e1]; exact (if_pos (Tp.aC_zero.2 p1)).trans p2
  have e3 : Tp.aT (coT (sD a b) (sD b c)) a = c := g4.trans e2
  have ok := Tp.aC_zero.1 g3
  have e4 : Tp.ap a 0 (coT (sD a b) (sD b c)) = c := (if_pos g3).symm.trans e3
  have hl := Tp.least ok
  rw [e4] at hl
  refine ⟨trivial, g3, e3, (tC_ok k3).1, ?_, by rw [g2]; exact Tp.cm_co _ _, sD_vp a b, sD_vp b c, ok.vp⟩
  unfold dD
  rw [if_pos k3]
  exact hl
theorem co_bound130 {hs : List Tp.H} (h : hs.length ≤ 130) (hv : ∀ x ∈ hs, x.old.length ≤ 120 ∧ x.new.length ≤ 120) : Tp.co hs ≤ 240 * 130 := by
  have key : ∀ l : List Tp.H, (∀ x ∈ l, x.old.length ≤ 120 ∧ x.new.length ≤ 120) → Tp.co l ≤ 240 * l.length := by
    intro l
    induction l with
    | nil => intro _; exact Nat.zero_le _
    | cons x r ih =>
      intro hx
      have h1 := hx x (List.mem_cons_self ..)
      have h2 := ih (fun y hy => hx y (List.mem_cons_of_mem _ hy))
      simp only [Tp.co, List.length_cons]
      omega
  have := key hs hv
  omega

set_option maxRecDepth 100000 in
set_option maxHeartbeats 8000000 in
theorem scripts_walk (pa : Option Addr) (a : List ByteArray) (ca : Nat) (pb : Option Addr) (b : List ByteArray) (cb : Nat) (pc : Option Addr) (c : List ByteArray) (cc : Nat) (w : World) (hpa : Sts w pa a) (hcpa : pa = none → ca = 0) (_hlpa : a.length ≤ 8796093021952) (hlcpa : a.length ≤ ca) (hpb : Sts w pb b) (hcpb : pb = none → cb = 0) (_hlpb : b.length ≤ 8796093021952) (hlcpb : b.length ≤ cb) (hpc : Sts w pc c) (hcpc : pc = none → cc = 0) (_hlpc : c.length ≤ 8796093021952) (hlcpc : c.length ≤ cc) :
    Calls Try.prog 12 #[.slice pa a.length ca, .slice pb b.length cb, .slice pc c.length cc] w (TPost w) := by
  have b0 := Below.refl w.heap.size w
  have Tpa_0 := Lib.hid (hpa.mono b0)
  have HCpa := Lib.hid hcpa
  have HLpa := Lib.hid hlcpa
  have Tpb_0 := Lib.hid (hpb.mono b0)
  have HCpb := Lib.hid hcpb
  have HLpb := Lib.hid hlcpb
  have Tpc_0 := Lib.hid (hpc.mono b0)
  have HCpc := Lib.hid hcpc
  have HLpc := Lib.hid hlcpc
  have B0 := Lib.hid b0
  clear hpa hpb hpc b0
  clear hcpa hlcpa
  clear hcpb hlcpb
  clear hcpc hlcpc
  go_enter Try.func12, Try.ntmps12
  go_wp2_with fail
  refine (script_any pa pb a b _ _ ca cb _ rfl rfl Tpa_0.out Tpb_0.out HCpa.out HCpb.out HLpa.out HLpb.out).mono ?_
  rintro e w1 ⟨pp, cpp, rfl, hpp, -, -, hb⟩
  have a1 := up_alloc (up_alloc (Below.refl w1.heap.size w1) (.cells #[.slice pp (sD a b).length cpp] 41 (0, 0))) (.cells #[.int .i64 (tC a b), .int .i64 (tI a b)] 25 (0, 0))
  have X_1 := Lib.hid (((One.new w1 (.slice pp (sD a b).length cpp) 41 (w1.heap.size) (by simp)).alloc (.cells #[.int .i64 (tC a b), .int .i64 (tI a b)] 25 (0, 0))))
  have F8_1 := Lib.hid ((by have := Flt.new (w1.alloc (.cells #[.slice pp (sD a b).length cpp] 41 (0, 0))) (tC a b) (tI a b) 25; simpa using this : Flt ((w1.alloc (.cells #[.slice pp (sD a b).length cpp] 41 (0, 0))).alloc (.cells #[.int .i64 (tC a b), .int .i64 (tI a b)] 25 (0, 0))) (w1.heap.size + 1) (tC a b) (tI a b)))
  have Tpa_1 := Lib.hid ((Tpa_0.out.mono hb).mono a1)
  have Tpb_1 := Lib.hid ((Tpb_0.out.mono hb).mono a1)
  have Tpc_1 := Lib.hid ((Tpc_0.out.mono hb).mono a1)
  have Ppp_1 := Lib.hid ((hpp).mono a1)
  have B1 := Lib.hid (up_call (up_call B0.out hb) a1)
  clear hb a1 Tpa_0 Tpb_0 Tpc_0 B0 
  clear hpp
  go_wp2_with fail
  refine (script_any pb pc b c _ _ cb cc _ rfl rfl Tpb_1.out Tpc_1.out HCpb.out HCpc.out HLpb.out HLpc.out).mono ?_
  rintro e w2 ⟨pq, cpq, rfl, hpq, -, -, hb⟩
  have a2 := up_alloc (up_alloc (Below.refl w2.heap.size w2) (.cells #[.slice pq (sD b c).length cpq] 41 (0, 0))) (.cells #[.int .i64 (tC b c), .int .i64 (tI b c)] 25 (0, 0))
  have Y_2 := Lib.hid (((One.new w2 (.slice pq (sD b c).length cpq) 41 (w2.heap.size) (by simp)).alloc (.cells #[.int .i64 (tC b c), .int .i64 (tI b c)] 25 (0, 0))))
  have F10_2 := Lib.hid ((by have := Flt.new (w2.alloc (.cells #[.slice pq (sD b c).length cpq] 41 (0, 0))) (tC b c) (tI b c) 25; simpa using this : Flt ((w2.alloc (.cells #[.slice pq (sD b c).length cpq] 41 (0, 0))).alloc (.cells #[.int .i64 (tC b c), .int .i64 (tI b c)] 25 (0, 0))) (w2.heap.size + 1) (tC b c) (tI b c)))
  have Tpa_2 := Lib.hid ((Tpa_1.out.mono hb).mono a2)
  have Tpb_2 := Lib.hid ((Tpb_1.out.mono hb).mono a2)
  have Tpc_2 := Lib.hid ((Tpc_1.out.mono hb).mono a2)
  have Ppp_2 := Lib.hid ((Ppp_1.out.mono hb).mono a2)
  have X_2 := Lib.hid ((X_1.out.up hb).up a2)
  have F8_2 := Lib.hid ((F8_1.out.up hb).up a2)
  have Ppq_2 := Lib.hid ((hpq).mono a2)
  have B2 := Lib.hid (up_call (up_call B1.out hb) a2)
  clear hb a2 Tpa_1 Tpb_1 Tpc_1 Ppp_1 X_1 F8_1 B1 
  clear hpq
  have LX := Lib.hid (sD_len a b)
  have LY := Lib.hid (sD_len b c)
  have x2_0 := X_2.out.c
  have x2_1 := Y_2.out.c
  go_wp2_with fail
  refine (tpCompose_any pp pq (sD a b) (sD b c) _ cpp _ cpq _ rfl rfl Ppp_2.out Ppq_2.out (by have := LX.out; omega) (by have := LY.out; omega)).mono ?_
  rintro e w3 ⟨pr, cpr, rfl, hpr, -, -, hb⟩
  have a3 := up_alloc (up_alloc (Below.refl w3.heap.size w3) (.cells #[.slice pr (coT (sD a b) (sD b c)).length cpr] 41 (0, 0))) (.cells #[.int .i64 (coC (sD a b) (sD b c)), .int .i64 (coI (sD a b) (sD b c))] 25 (0, 0))
  have Z_3 := Lib.hid (((One.new w3 (.slice pr (coT (sD a b) (sD b c)).length cpr) 41 (w3.heap.size) (by simp)).alloc (.cells #[.int .i64 (coC (sD a b) (sD b c)), .int .i64 (coI (sD a b) (sD b c))] 25 (0, 0))))
  have F12_3 := Lib.hid ((by have := Flt.new (w3.alloc (.cells #[.slice pr (coT (sD a b) (sD b c)).length cpr] 41 (0, 0))) (coC (sD a b) (sD b c)) (coI (sD a b) (sD b c)) 25; simpa using this : Flt ((w3.alloc (.cells #[.slice pr (coT (sD a b) (sD b c)).length cpr] 41 (0, 0))).alloc (.cells #[.int .i64 (coC (sD a b) (sD b c)), .int .i64 (coI (sD a b) (sD b c))] 25 (0, 0))) (w3.heap.size + 1) (coC (sD a b) (sD b c)) (coI (sD a b) (sD b c))))
  have Tpa_3 := Lib.hid ((Tpa_2.out.mono hb).mono a3)
  have Tpb_3 := Lib.hid ((Tpb_2.out.mono hb).mono a3)
  have Tpc_3 := Lib.hid ((Tpc_2.out.mono hb).mono a3)
  have Ppp_3 := Lib.hid ((Ppp_2.out.mono hb).mono a3)
  have X_3 := Lib.hid ((X_2.out.up hb).up a3)
  have F8_3 := Lib.hid ((F8_2.out.up hb).up a3)
  have Ppq_3 := Lib.hid ((Ppq_2.out.mono hb).mono a3)
  have Y_3 := Lib.hid ((Y_2.out.up hb).up a3)
  have F10_3 := Lib.hid ((F10_2.out.up hb).up a3)
  have Ppr_3 := Lib.hid ((hpr.self).mono a3)
  have B3 := Lib.hid (up_call (up_call B2.out hb) a3)
  clear hb a3 Tpa_2 Tpb_2 Tpc_2 Ppp_2 X_2 F8_2 Ppq_2 Y_2 F10_2 B2 x2_0 x2_1
  clear hpr
  by_cases k70 : tC a b = 0
  case neg =>
    have g : (tC a b != 0) = true := by simpa using k70
    have x3_0 := F8_3.out.c0
    have x3_1 := F10_3.out.c0
    have x3_2 := F12_3.out.c0
    go_wp2_with fail
    refine (replaced_any _).mono ?_
    rintro e wz ⟨rfl, hbz⟩
    have BZ := Lib.hid (up_call B3.out hbz)
    clear hbz
    go_wp2_with fail
    go_ret
    exact ⟨rfl, BZ.out⟩
  have gk70 : (tC a b != 0) = false := by simpa using k70
  have Hk70 := Lib.hid k70
  clear k70
  by_cases k87 : tC b c = 0
  case neg =>
    have g : (tC b c != 0) = true := by simpa using k87
    have x3_0 := F8_3.out.c0
    have x3_1 := F10_3.out.c0
    have x3_2 := F12_3.out.c0
    go_wp2_with fail
    refine (replaced_any _).mono ?_
    rintro e wz ⟨rfl, hbz⟩
    have BZ := Lib.hid (up_call B3.out hbz)
    clear hbz
    go_wp2_with fail
    go_ret
    exact ⟨rfl, BZ.out⟩
  have gk87 : (tC b c != 0) = false := by simpa using k87
  have Hk87 := Lib.hid k87
  clear k87
  by_cases k104 : coC (sD a b) (sD b c) = 0
  case neg =>
    have g : (coC (sD a b) (sD b c) != 0) = true := by simpa using k104
    have x3_0 := F8_3.out.c0
    have x3_1 := F10_3.out.c0
    have x3_2 := F12_3.out.c0
    go_wp2_with fail
    refine (replaced_any _).mono ?_
    rintro e wz ⟨rfl, hbz⟩
    have BZ := Lib.hid (up_call B3.out hbz)
    clear hbz
    go_wp2_with fail
    go_ret
    exact ⟨rfl, BZ.out⟩
  have gk104 : (coC (sD a b) (sD b c) != 0) = false := by simpa using k104
  have Hk104 := Lib.hid k104
  clear k104
  have EE := Lib.hid (sc_comp Hk70.out Hk87.out)
  have x3_0 := F8_3.out.c0
  have x3_1 := F10_3.out.c0
  have x3_2 := F12_3.out.c0
  have x3_3 := Z_3.out.c
  go_wp2_with fail
  refine (tpApply_any pr pa (coT (sD a b) (sD b c)) a _ cpr _ ca _ rfl rfl Ppr_3.out (by have := coT_len (sD a b) (sD b c); omega) Tpa_3.out HCpa.out HLpa.out).mono ?_
  rintro e w4 ⟨vps, rfl, own, hb⟩
  obtain ⟨ps, cps, rfl, hcps, hlps⟩ := ownS_shape own
  have a4 := up_alloc (Below.refl w4.heap.size w4) (.cells #[.int .i64 (Tp.aC (coT (sD a b) (sD b c)) a), .int .i64 (Tp.aI (coT (sD a b) (sD b c)) a)] 25 (0, 0))
  have F14_4 := Lib.hid ((by have := Flt.new w4 (Tp.aC (coT (sD a b) (sD b c)) a) (Tp.aI (coT (sD a b) (sD b c)) a) 25; simpa using this : Flt (w4.alloc (.cells #[.int .i64 (Tp.aC (coT (sD a b) (sD b c)) a), .int .i64 (Tp.aI (coT (sD a b) (sD b c)) a)] 25 (0, 0))) (w4.heap.size) (Tp.aC (coT (sD a b) (sD b c)) a) (Tp.aI (coT (sD a b) (sD b c)) a)))
  have Tpa_4 := Lib.hid ((Tpa_3.out.mono hb).mono a4)
  have Tpb_4 := Lib.hid ((Tpb_3.out.mono hb).mono a4)
  have Tpc_4 := Lib.hid ((Tpc_3.out.mono hb).mono a4)
  have Ppp_4 := Lib.hid ((Ppp_3.out.mono hb).mono a4)
  have X_4 := Lib.hid ((X_3.out.up hb).up a4)
  have F8_4 := Lib.hid ((F8_3.out.up hb).up a4)
  have Ppq_4 := Lib.hid ((Ppq_3.out.mono hb).mono a4)
  have Y_4 := Lib.hid ((Y_3.out.up hb).up a4)
  have F10_4 := Lib.hid ((F10_3.out.up hb).up a4)
  have Ppr_4 := Lib.hid ((Ppr_3.out.mono hb).mono a4)
  have Z_4 := Lib.hid ((Z_3.out.up hb).up a4)
  have F12_4 := Lib.hid ((F12_3.out.up hb).up a4)
  have Tps_4 := Lib.hid ((ownS_sts own (cT_small (coT (sD a b) (sD b c)) a) (by have := cT_len (coT (sD a b) (sD b c)) a; omega)).mono a4)
  have B4 := Lib.hid (up_call (up_call B3.out hb) a4)
  clear hb a4 Tpa_3 Tpb_3 Tpc_3 Ppp_3 X_3 F8_3 Ppq_3 Y_3 F10_3 Ppr_3 Z_3 F12_3 B3 x3_0 x3_1 x3_2 x3_3
  have HCps := Lib.hid hcps
  have HLps := Lib.hid hlps
  clear own hcps hlps
  clear Tpb_4 F8_4 F10_4 F12_4
  go_wp2_with fail
  refine (distance_any pa pc a c _ _ ca cc _ rfl rfl Tpa_4.out Tpc_4.out).mono ?_
  rintro e w5 ⟨rfl, hb⟩
  have a5 := up_alloc (Below.refl w5.heap.size w5) (.cells #[.int .i64 (tC a c), .int .i64 (tI a c)] 25 (0, 0))
  have F16_5 := Lib.hid ((by have := Flt.new w5 (tC a c) (tI a c) 25; simpa using this : Flt (w5.alloc (.cells #[.int .i64 (tC a c), .int .i64 (tI a c)] 25 (0, 0))) (w5.heap.size) (tC a c) (tI a c)))
  have Tpa_5 := Lib.hid ((Tpa_4.out.mono hb).mono a5)
  have Tpc_5 := Lib.hid ((Tpc_4.out.mono hb).mono a5)
  have Ppp_5 := Lib.hid ((Ppp_4.out.mono hb).mono a5)
  have X_5 := Lib.hid ((X_4.out.up hb).up a5)
  have Ppq_5 := Lib.hid ((Ppq_4.out.mono hb).mono a5)
  have Y_5 := Lib.hid ((Y_4.out.up hb).up a5)
  have Ppr_5 := Lib.hid ((Ppr_4.out.mono hb).mono a5)
  have Z_5 := Lib.hid ((Z_4.out.up hb).up a5)
  have Tps_5 := Lib.hid ((Tps_4.out.mono hb).mono a5)
  have F14_5 := Lib.hid ((F14_4.out.up hb).up a5)
  have B5 := Lib.hid (up_call (up_call B4.out hb) a5)
  clear hb a5 Tpa_4 Tpc_4 Ppp_4 X_4 Ppq_4 Y_4 Ppr_4 Z_4 Tps_4 F14_4 B4 
  have i0 : (Tp.aC (coT (sD a b) (sD b c)) a == 0) = true := by simpa using EE.out.2.1
  have j0 : (tC a c == 0) = true := by simpa using EE.out.2.2.2.1
  go_wp2_with fail
  obtain ⟨W, hW⟩ : ∃ W, W = w5.alloc (.cells #[.int .i64 (tC a c), .int .i64 (tI a c)] 25 (0, 0)) := ⟨_, rfl⟩
  rw [← hW] at Tpa_5 Tpc_5 Ppp_5 X_5 Ppq_5 Y_5 Ppr_5 Z_5 Tps_5 F14_5 F16_5 ⊢
  rw [← hW] at B5
  clear hW
  have CS := fun n => over_quiet (equal_any ps pc (Tp.aT (coT (sD a b) (sD b c)) a) c _ _ cps cc (over W n) rfl rfl (Tps_5.out.mono (over_below _ n)) (Tpc_5.out.mono (over_below _ n)))
  rw [eqS_true EE.out.2.2.1] at CS
  have CZ := fun n => over_call (cost_any pr (coT (sD a b) (sD b c)) _ cpr (over W n) rfl (Ppr_5.out.mono (over_below _ n)) (by have := coT_len (sD a b) (sD b c); omega) (vp_each EE.out.2.2.2.2.2.2.2.2))
  have C1 := fun n => over_call (cost_any pp (sD a b) _ cpp (over W n) rfl (Ppp_5.out.mono (over_below _ n)) (by have := LX.out; omega) (vp_each EE.out.2.2.2.2.2.2.1))
  have C2 := fun n => over_call (cost_any pq (sD b c) _ cpq (over W n) rfl (Ppq_5.out.mono (over_below _ n)) (by have := LY.out; omega) (vp_each EE.out.2.2.2.2.2.2.2.1))
  have CX := fun n => over_call ((replaced_any (over W n)).mono fun e w' h => (⟨h.1, h.2⟩ : BPost (.bool true) (over W n) e w'))
  have n1 : decide (dD a c ≤ ((Tp.co (coT (sD a b) (sD b c)) : Nat) : Int)) = true := decide_eq_true EE.out.2.2.2.2.1
  have n2 : decide (((Tp.co (coT (sD a b) (sD b c)) : Nat) : Int) ≤ ((Tp.co (sD a b) : Nat) : Int) + ((Tp.co (sD b c) : Nat) : Int)) = true := decide_eq_true (by have := EE.out.2.2.2.2.2.1; omega)
  have n3 : decide (Tp.co (coT (sD a b) (sD b c)) ≤ Tp.co (sD a b) + Tp.co (sD b c)) = true := decide_eq_true EE.out.2.2.2.2.2.1
  have k1 := co_bound130 LX.out (vp_each EE.out.2.2.2.2.2.2.1)
  have k2 := co_bound130 LY.out (vp_each EE.out.2.2.2.2.2.2.2.1)
  have wz : IntKind.i64.wrap (((Tp.co (sD a b) : Nat) : Int) + ((Tp.co (sD b c) : Nat) : Int)) = ((Tp.co (sD a b) : Nat) : Int) + ((Tp.co (sD b c) : Nat) : Int) := IntWalk.i64_in _ (by omega)
  refine over_lit (by kernel_rfl) (by kernel_rfl) ?_
  have r0 := over_cell X_5.out.lt X_5.out.c
  have r1 := over_cell Y_5.out.lt Y_5.out.c
  have r2 := over_cell Z_5.out.lt Z_5.out.c
  have r3 := over_cell F14_5.out.lt F14_5.out.c0
  have r4 := over_cell F14_5.out.lt F14_5.out.c1
  have r5 := over_cell F16_5.out.lt F16_5.out.c0
  have r6 := over_cell F16_5.out.lt F16_5.out.c1
  repeat (go_big_quiet_step (first | (go_at_call 22; exact CS _) | (go_at_call_of 36 pr; exact CZ _) | (go_at_call_of 36 pp; exact C1 _) | (go_at_call_of 36 pq; exact C2 _) | (go_at_call 31; exact CX _)))
  refine wpQuiet_nil ?_
  rintro _ ⟨nq, rfl⟩
  clear r0 r1 r2 r3 r4 r5 r6 CS CZ C1 C2 CX
  go_wp2_with fail
  go_ret
  exact ⟨rfl, up_call B5.out (over_below _ _)⟩
end Go.Proofs.Ytbgnckbgpiajjaa
