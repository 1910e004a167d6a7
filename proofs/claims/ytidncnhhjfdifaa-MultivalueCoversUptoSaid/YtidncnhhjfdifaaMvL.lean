
/-
  The law MultivalueWriteWins, walked.
-/
import Derived.Test.YtidncnhhjfdifaaMvK
import Derived.Test.YtidncnhhjfdifaaMvG
namespace Go.Proofs.Ytidncnhhjfdifaa
open Go.RowKit
set_option maxRecDepth 4000
theorem vs_single {qs : List Mv.R} {v : Mv.V} (h : Mv.vs qs = [v]) : ∃ r, qs = [r] ∧ r.v = v := by
  match qs, h with
  | [r], h => exact ⟨r, rfl, by simpa [Mv.vs] using h⟩
  | _ :: _ :: _, h => simp [Mv.vs] at h
theorem values_val (p q : Option Addr) (ra rb : List Mv.R) (cap cap' : Nat) (w : World) (hp : Vs w p ra) (hq : Vs w q rb) (he : Mv.vs ra = Mv.vs rb) (hv : Mv.Val (Mv.vs ra)) :
    Calls Try.prog 20 #[.slice p ra.length cap, .slice q rb.length cap'] w (QPost (.bool true) w) :=
  values_same p q ra rb cap cap' w hp hq he (by have := hv.len; rw [Mv.vs_len] at this; omega) (fun r hr => by rw [show r.vec = r.v.vec from rfl, (hv.each r.v (List.mem_map_of_mem hr)).len]; decide)
set_option maxRecDepth 100000 in
set_option maxHeartbeats 2000000 in
theorem writewins_walk (p : Option Addr) (rs : List Mv.R) (cap : Nat) (r v : Int) (w : World) (hp : Vs w p rs) (_ : p = none → cap = 0) (hl : rs.length ≤ 4398046510976) (hlc : rs.length ≤ cap) (_ : (Lit.int .i64 r).wf = true) (_ : (Lit.int .i64 v).wf = true) :
    Calls Try.prog 5 #[.slice p rs.length cap, .int .i64 r, .int .i64 v] w (TPost w) := by
  have HP := Lib.hid hp
  have HL := Lib.hid hl
  have HC := Lib.hid hlc
  have W1 := Lib.hid (mvWrite_any p rs cap r v w hp hlc (by omega))
  have LAW := Lib.hid (fun h => Mv.write_wins (a := Mv.vs rs) (r := r) (v := v) h)
  have LV := Lib.hid (fun h => Mv.wL_val (l := Mv.vs rs) (r := r) (v := v) h)
  generalize Mv.wC (Mv.vs rs) r v = c at W1 LAW LV
  generalize Mv.wI (Mv.vs rs) r v = i at W1
  clear hp hl hlc
  go_enter Try.func5, Try.ntmps5
  go_wp2_with fail
  refine W1.out.mono ?_
  rintro e w1 ⟨q, qs, cq, rfl, hvs, hqs, hn, hqc, hb1⟩
  have u1 := up_alloc (Below.refl w1.heap.size w1) (.cells #[.int .i64 c, .int .i64 i] 24 (0, 0))
  have F1 := Lib.hid (Flt.new w1 c i 24)
  have V1 := Lib.hid (hvs.mono u1)
  have B1 := Lib.hid (up_call hb1 u1)
  have QS := Lib.hid hqs
  have QC := Lib.hid hqc
  clear hvs hqs hqc hb1 u1 hn
  by_cases hc : c = 0
  case neg =>
    have g0 : (c != 0) = true := by rw [bne_iff_ne]; exact hc
    clear hc
    go_wp2_with fail
    refine (first_any _).mono ?_
    rintro e w2 ⟨rfl, hb2⟩
    go_wp2_with fail
    go_returns
    exact ⟨rfl, up_call B1.out hb2⟩
  case pos =>
    obtain ⟨l1, l2, l3⟩ := LAW.out hc
    have g0 : (c != 0) = false := by rw [hc]; rfl
    obtain ⟨x, rfl, hx⟩ := vs_single (QS.out.trans l1)
    have HX := Lib.hid hx
    have M := Lib.hid (mvMerge_any p q rs [x] cap cq _ (HP.out.mono B1.out) V1.out HC.out QC.out (by have := HL.out; omega) (by simp))
    rw [QS.out, l2, l3, Mv.mI_zero l2] at M
    have L1 := Lib.hid l1
    have VL := Lib.hid (LV.out hc)
    clear hc hx l1 l2 l3 LAW W1 LV
    rw [show ([x] : List Mv.R).length = 1 from rfl] at M ⊢
    have V1c := V1.out.cell (i := 0) (by simp)
    obtain ⟨f0, f1, -, -, -⟩ := F1.out
    go_wp2_with fail
    generalize w1.alloc (.cells #[.int .i64 c, .int .i64 i] 24 (0, 0)) = W1 at V1 B1 M V1c ⊢
    refine M.out.mono ?_
    rintro e w2 ⟨q2, ys, c2, rfl, hvs, hys, -, -, hb2⟩
    have u2 := up_alloc (Below.refl w2.heap.size w2) (.cells #[.int .i64 0, .int .i64 0] 24 (0, 0))
    have V2 := hvs.mono u2
    have V1b := V1.out.mono (up_call hb2 u2)
    have B2 := Lib.hid (up_call B1.out (up_call hb2 u2))
    obtain ⟨b, off, rfl, -, d0, -, -⟩ := V1b.cell (i := 0) (by simp)
    rw [Nat.zero_mul, Nat.add_zero] at d0
    rw [show ([x] : List Mv.R)[0] = x from rfl, show x.val = v from congrArg Mv.V.val HX.out] at d0
    have EV := Lib.hid (values_val q2 (some ⟨b, off, none⟩) ys [x] c2 cq _ V2 V1b (hys.trans QS.out.symm) (by rw [hys]; exact VL.out))
    have F2 := Flt.new w2 0 0 24
    rw [show ([x] : List Mv.R).length = 1 from rfl] at EV
    clear V1 M V1c hvs hys hb2 u2 V2 V1b
    go_wp2_with fail
    generalize w2.alloc (.cells #[.int .i64 0, .int .i64 0] 24 (0, 0)) = W2 at B2 EV d0 F2 ⊢
    refine EV.out.mono ?_
    rintro e w3 ⟨rfl, n, rfl⟩
    have d1 : (W2.drewN n).cell? ⟨b, off, none⟩ = some (.int .i64 v) := by rw [World.cell?_drewN]; exact d0
    go_wp2_with fail
    refine (first_any _).mono ?_
    rintro e w4 ⟨rfl, hb4⟩
    go_wp2_with fail
    go_returns
    exact ⟨rfl, up_call (below_drewN B2.out n) hb4⟩
end Go.Proofs.Ytidncnhhjfdifaa
