
/-
  The law MultivalueConcurrent, walked.
-/
import Derived.Test.YtidncnhhjfdifaaMvO
namespace Go.Proofs.Ytidncnhhjfdifaa
open Go.RowKit
set_option maxRecDepth 4000
theorem mvField (a b : Int) (w : World) : (Instr.field 24 (.agg #[.int .i64 a, .int .i64 b]) 0).run Try.prog w = .ok (.int .i64 a) w := by kernel_rfl
set_option maxRecDepth 100000 in
set_option maxHeartbeats 2000000 in
theorem concurrent_walk (p : Option Addr) (rs : List Mv.R) (cap : Nat) (r m s n : Int) (w : World) (hp : Vs w p rs) (_ : p = none → cap = 0) (hl : rs.length ≤ 4398046510976) (hlc : rs.length ≤ cap) (_ : (Lit.int .i64 r).wf = true) (_ : (Lit.int .i64 m).wf = true) (_ : (Lit.int .i64 s).wf = true) (_ : (Lit.int .i64 n).wf = true) :
    Calls Try.prog 6 #[.slice p rs.length cap, .int .i64 r, .int .i64 m, .int .i64 s, .int .i64 n] w (TPost w) := by
  have HP := Lib.hid hp
  have HL := Lib.hid (show rs.length ≤ 4611686018427387904 by omega)
  have HC := Lib.hid hlc
  have W1 := Lib.hid (mvWrite_any p rs cap r m w hp hlc HL.out)
  have LA := Lib.hid (fun h h2 => Mv.two_replicas (a := Mv.vs rs) (r := r) (s := s) (m := m) (n := n) h h2)
  have LB := Lib.hid (fun h (h2 : Mv.wC (Mv.vs rs) s n = 0) (e : r = s) => show (Mv.mC (Mv.wL (Mv.vs rs) r m) (Mv.wL (Mv.vs rs) s n) = 0 ↔ m = n) ∧ (m = n → Mv.mL (Mv.wL (Mv.vs rs) r m) (Mv.wL (Mv.vs rs) s n) = Mv.wL (Mv.vs rs) r m) by subst e; exact Mv.one_replica (a := Mv.vs rs) (r := r) (m := m) (n := n) h h2)
  have LV := Lib.hid (fun h => Mv.wL_val (l := Mv.vs rs) (r := r) (v := m) h)
  clear hp hl hlc
  go_enter Try.func6, Try.ntmps6
  go_wp2_with fail
  refine W1.out.mono ?_
  rintro e w1 ⟨qx, xs, cx, rfl, hvs, hxs, -, hxc, hb1⟩
  generalize Mv.wC (Mv.vs rs) r m = c at LA LB LV ⊢
  generalize Mv.wI (Mv.vs rs) r m = i
  have u1 := up_alloc (Below.refl w1.heap.size w1) (.cells #[.int .i64 c, .int .i64 i] 24 (0, 0))
  have F1 := Lib.hid (Flt.new w1 c i 24)
  have V1 := Lib.hid (hvs.mono u1)
  have B1 := Lib.hid (up_call hb1 u1)
  have XS := Lib.hid hxs
  have XC := Lib.hid hxc
  clear W1 hvs hxs hxc hb1 u1
  go_wp2_with fail
  generalize w1.alloc (.cells #[.int .i64 c, .int .i64 i] 24 (0, 0)) = W1 at F1 V1 B1 ⊢
  have WR := Lib.hid (mvWrite_any p rs cap s n W1 (HP.out.mono B1.out) HC.out HL.out)
  generalize hd0 : Mv.wC (Mv.vs rs) s n = d at LA LB WR
  generalize Mv.wI (Mv.vs rs) s n = j at WR
  refine WR.out.mono ?_
  rintro e w2 ⟨qy, ys, cy, rfl, hvs, hys, -, hyc, hb2⟩
  have u2 := up_alloc (Below.refl w2.heap.size w2) (.cells #[.int .i64 d, .int .i64 j] 24 (0, 0))
  have F1b := Lib.hid ((F1.out.up hb2).up u2)
  have F2 := Lib.hid (Flt.new w2 d j 24)
  have V2 := Lib.hid (hvs.mono u2)
  have V1b := Lib.hid (V1.out.mono (up_call hb2 u2))
  have B2 := Lib.hid (up_call B1.out (up_call hb2 u2))
  have YS := Lib.hid hys
  have YC := Lib.hid hyc
  clear WR hvs hys hyc hb2 u2 F1 V1 hd0
  obtain ⟨a0, a1, -, -, -⟩ := F1b.out
  obtain ⟨b0, b1, -, -, -⟩ := F2.out
  by_cases hc : c = 0
  case neg =>
    have g0 : (c != 0) = true := by rw [bne_iff_ne]; exact hc
    clear hc
    go_wp2_with fail
    refine (first_any _).mono ?_
    rintro e w9 ⟨rfl, hb9⟩
    go_wp2_with fail
    go_returns
    exact ⟨rfl, up_call B2.out hb9⟩
  case pos =>
  have g0 : (c != 0) = false := by rw [hc]; rfl
  by_cases hd : d = 0
  case neg =>
    have g1 : (d != 0) = true := by rw [bne_iff_ne]; exact hd
    clear hd hc
    go_wp2_with fail
    refine (first_any _).mono ?_
    rintro e w9 ⟨rfl, hb9⟩
    go_wp2_with fail
    go_returns
    exact ⟨rfl, up_call B2.out hb9⟩
  case pos =>
  have g1 : (d != 0) = false := by rw [hd]; rfl
  have VL := Lib.hid (LV.out hc)
  have A1 := Lib.hid (LA.out hc hd)
  have A2 := Lib.hid (LB.out hc hd)
  clear hc hd LA LB LV
  go_wp2_with fail
  generalize w2.alloc (.cells #[.int .i64 d, .int .i64 j] 24 (0, 0)) = W2 at F1b F2 V2 V1b B2 a0 a1 b0 b1 ⊢
  have M3 := Lib.hid (mvMerge_any qx qy xs ys cx cy W2 V1b.out V2.out XC.out YC.out (by have := wL_small XS.out; omega) (by have := wL_small YS.out; omega))
  rw [YS.out, XS.out] at M3
  clear a0 a1 b0 b1 F1b F2
  refine M3.out.mono ?_
  rintro e w3 ⟨qz, zs, cz, rfl, hvs, hzs, -, hzc, hb3⟩
  generalize Mv.mC (Mv.wL (Mv.vs rs) r m) (Mv.wL (Mv.vs rs) s n) = f at A1 A2 ⊢
  generalize Mv.mI (Mv.wL (Mv.vs rs) r m) (Mv.wL (Mv.vs rs) s n) = k
  have u3 := up_alloc (Below.refl w3.heap.size w3) (.cells #[.int .i64 f, .int .i64 k] 24 (0, 0))
  have F3 := Lib.hid (Flt.new w3 f k 24)
  have VZ := Lib.hid (hvs.mono u3)
  have V3 := Lib.hid (V1b.out.mono (up_call hb3 u3))
  have B3 := Lib.hid (up_call B2.out (up_call hb3 u3))
  have ZS := Lib.hid hzs
  have ZC := Lib.hid hzc
  clear M3 hvs hzs hzc hb3 u3 V2 V1b
  obtain ⟨a0, a1, -, -, -⟩ := F3.out
  by_cases hrs : r = s
  · have g2 : (r == s) = true := by rw [beq_iff_eq]; exact hrs
    obtain ⟨e1, e2⟩ := A2.out hrs
    clear hrs A1 A2
    by_cases hmn : m = n
    · have g3 : (m == n) = true := by rw [beq_iff_eq]; exact hmn
      have g4 : (m != n) = false := by rw [hmn]; simp
      have g5 : (f == 0) = true := by rw [beq_iff_eq]; exact e1.2 hmn
      have E2 := Lib.hid (e2 hmn)
      have EV := Lib.hid (values_val qz qx zs xs cz cx _ VZ.out V3.out (ZS.out.trans (E2.out.trans XS.out.symm)) (by rw [ZS.out, E2.out]; exact VL.out))
      clear e1 e2 hmn
      go_wp2_with fail
      refine EV.out.mono ?_
      rintro e w4 ⟨rfl, q, rfl⟩
      go_wp2_with fail
      refine (first_any _).mono ?_
      rintro e w9 ⟨rfl, hb9⟩
      go_wp2_with fail
      go_returns
      exact ⟨rfl, up_call (below_drewN B3.out q) hb9⟩
    · have g3 : (m == n) = false := by rw [beq_eq_false_iff_ne]; exact hmn
      have g4 : (m != n) = true := by rw [bne_iff_ne]; exact hmn
      have g5 : (f == 0) = false := by rw [beq_eq_false_iff_ne]; exact fun h => hmn (e1.1 h)
      clear e1 e2 hmn
      go_wp2_with fail
      refine (first_any _).mono ?_
      rintro e w9 ⟨rfl, hb9⟩
      go_wp2_with fail
      go_returns
      exact ⟨rfl, up_call B3.out hb9⟩
  · have g2 : (r == s) = false := by rw [beq_eq_false_iff_ne]; exact hrs
    obtain ⟨e1, e2, e3⟩ := A1.out hrs
    have g5 : (f == 0) = true := by rw [beq_iff_eq]; exact e1
    have hz2 : zs.length = 2 := by rw [← Mv.vs_len, ZS.out]; exact e2
    have VV := Lib.hid (mvValidate_any qz zs cz _ VZ.out ZC.out (by omega))
    rw [ZS.out, e3, Mv.vI_zero e3, hz2] at VV
    clear hrs A1 A2 e1 e2 e3
    rw [hz2]
    clear hz2
    have hfd := mvField
    go_wp2_with fail
    refine VV.out.mono ?_
    rintro e w4 ⟨rfl, hb4⟩
    have B4 := Lib.hid (up_call B3.out hb4)
    clear hb4
    go_wp2_with fail
    refine (first_any _).mono ?_
    rintro e w9 ⟨rfl, hb9⟩
    go_wp2_with fail
    go_returns
    exact ⟨rfl, up_call B4.out hb9⟩
end Go.Proofs.Ytidncnhhjfdifaa
