/-
  The law TextpatchComposeMatchesSpec, walked.
-/
import Derived.Test.YtbgnckbgpiajjaaCpU
import Derived.Test.YtbgnckbgpiajjaaCrF
namespace Go.Proofs.Ytbgnckbgpiajjaa
open Go.RowKit
set_option maxRecDepth 4000

set_option maxRecDepth 100000 in
set_option maxHeartbeats 8000000 in
theorem cospec_walk (p : Option Addr) (hs : List Tp.H) (cap : Nat) (q : Option Addr) (ks : List Tp.H) (cap' : Nat) (w : World) (hp : Ptc w p hs) (_hcp : p = none → cap = 0) (hlp : hs.length ≤ 2513169434845) (_hlcp : hs.length ≤ cap) (_hfp : ∀ k ∈ hs, fits63 k.at') (hq : Ptc w q ks) (_hcq : q = none → cap' = 0) (hlq : ks.length ≤ 2513169434845) (_hlcq : ks.length ≤ cap') (_hfq : ∀ k ∈ ks, fits63 k.at') :
    Calls Try.prog 9 #[.agg #[.slice p hs.length cap], .agg #[.slice q ks.length cap']] w (TPost w) := by
  have b0 := up_alloc (up_alloc (Below.refl w.heap.size w) (.cells #[.slice p hs.length cap] 41 (0, 0))) (.cells #[.slice q ks.length cap'] 41 (0, 0))
  have Op_0 := Lib.hid (((One.new w (.slice p hs.length cap) 41 (w.heap.size) (by simp)).alloc (.cells #[.slice q ks.length cap'] 41 (0, 0))))
  have Oq_0 := Lib.hid ((One.new (w.alloc (.cells #[.slice p hs.length cap] 41 (0, 0))) (.slice q ks.length cap') 41 (w.heap.size + 1) (by simp)))
  have Pp_0 := Lib.hid (hp.mono b0)
  have Pq_0 := Lib.hid (hq.mono b0)
  have B0 := Lib.hid b0
  clear hp hq b0
  go_enter Try.func9, Try.ntmps9
  have x0_0 := Op_0.out.c
  have x0_1 := Oq_0.out.c
  go_wp2_with fail
  refine (tpCompose_any p q hs ks _ cap _ cap' _ rfl rfl Pp_0.out Pq_0.out hlp hlq).mono ?_
  rintro e w1 ⟨px, cpx, rfl, hpx, -, -, hb⟩
  have a1 := up_alloc (up_alloc (Below.refl w1.heap.size w1) (.cells #[.slice px (coT hs ks).length cpx] 41 (0, 0))) (.cells #[.int .i64 (coC hs ks), .int .i64 (coI hs ks)] 25 (0, 0))
  have X_1 := Lib.hid (((One.new w1 (.slice px (coT hs ks).length cpx) 41 (w1.heap.size) (by simp)).alloc (.cells #[.int .i64 (coC hs ks), .int .i64 (coI hs ks)] 25 (0, 0))))
  have F10_1 := Lib.hid ((by have := Flt.new (w1.alloc (.cells #[.slice px (coT hs ks).length cpx] 41 (0, 0))) (coC hs ks) (coI hs ks) 25; simpa using this : Flt ((w1.alloc (.cells #[.slice px (coT hs ks).length cpx] 41 (0, 0))).alloc (.cells #[.int .i64 (coC hs ks), .int .i64 (coI hs ks)] 25 (0, 0))) (w1.heap.size + 1) (coC hs ks) (coI hs ks)))
  have Op_1 := Lib.hid ((Op_0.out.up hb).up a1)
  have Oq_1 := Lib.hid ((Oq_0.out.up hb).up a1)
  have Pp_1 := Lib.hid ((Pp_0.out.mono hb).mono a1)
  have Pq_1 := Lib.hid ((Pq_0.out.mono hb).mono a1)
  have Ppx_1 := Lib.hid ((hpx.self).mono a1)
  have B1 := Lib.hid (up_call (up_call B0.out hb) a1)
  clear hb a1 Op_0 Oq_0 Pp_0 Pq_0 B0 x0_0 x0_1
  clear hpx
  have x1_0 := Op_1.out.c
  have x1_1 := Oq_1.out.c
  go_wp2_with fail
  refine (refCompose_any p q hs ks _ cap _ cap' _ rfl rfl Pp_1.out Pq_1.out hlp hlq).mono ?_
  rintro e w2 ⟨py, cpy, rfl, hpy, -, -, hb⟩
  have a2 := up_alloc (up_alloc (Below.refl w2.heap.size w2) (.cells #[.slice py (coT hs ks).length cpy] 41 (0, 0))) (.cells #[.int .i64 (coC hs ks), .int .i64 (coI hs ks)] 25 (0, 0))
  have Y_2 := Lib.hid (((One.new w2 (.slice py (coT hs ks).length cpy) 41 (w2.heap.size) (by simp)).alloc (.cells #[.int .i64 (coC hs ks), .int .i64 (coI hs ks)] 25 (0, 0))))
  have F12_2 := Lib.hid ((by have := Flt.new (w2.alloc (.cells #[.slice py (coT hs ks).length cpy] 41 (0, 0))) (coC hs ks) (coI hs ks) 25; simpa using this : Flt ((w2.alloc (.cells #[.slice py (coT hs ks).length cpy] 41 (0, 0))).alloc (.cells #[.int .i64 (coC hs ks), .int .i64 (coI hs ks)] 25 (0, 0))) (w2.heap.size + 1) (coC hs ks) (coI hs ks)))
  have Op_2 := Lib.hid ((Op_1.out.up hb).up a2)
  have Oq_2 := Lib.hid ((Oq_1.out.up hb).up a2)
  have Pp_2 := Lib.hid ((Pp_1.out.mono hb).mono a2)
  have Pq_2 := Lib.hid ((Pq_1.out.mono hb).mono a2)
  have Ppx_2 := Lib.hid ((Ppx_1.out.mono hb).mono a2)
  have X_2 := Lib.hid ((X_1.out.up hb).up a2)
  have F10_2 := Lib.hid ((F10_1.out.up hb).up a2)
  have Ppy_2 := Lib.hid ((hpy.self).mono a2)
  have B2 := Lib.hid (up_call (up_call B1.out hb) a2)
  clear hb a2 Op_1 Oq_1 Pp_1 Pq_1 Ppx_1 X_1 F10_1 B1 x1_0 x1_1
  clear hpy
  clear Op_2 Oq_2 Pp_2 Pq_2
  have LX := Lib.hid (coT_len hs ks)
  have x2_0 := F10_2.out.c0
  have x2_1 := F10_2.out.c1
  have x2_2 := F12_2.out.c0
  have x2_3 := F12_2.out.c1
  have x2_4 := X_2.out.c
  have x2_5 := Y_2.out.c
  go_wp2_with fail
  refine (patchEq_any px py (coT hs ks) (coT hs ks) _ _ cpx cpy _ rfl rfl Ppx_2.out Ppy_2.out (by have := LX.out; omega)).mono ?_
  rintro e w3 ⟨rfl, hb⟩
  rw [eqP_true (rfl)]
  have Ppx_3 := Lib.hid (Ppx_2.out.mono hb)
  have X_3 := Lib.hid (X_2.out.up hb)
  have F10_3 := Lib.hid (F10_2.out.up hb)
  have Ppy_3 := Lib.hid (Ppy_2.out.mono hb)
  have Y_3 := Lib.hid (Y_2.out.up hb)
  have F12_3 := Lib.hid (F12_2.out.up hb)
  have B3 := Lib.hid (up_call B2.out hb)
  clear hb  Ppx_2 X_2 F10_2 Ppy_2 Y_2 F12_2 B2 x2_0 x2_1 x2_2 x2_3 x2_4 x2_5
  have x3_0 := F10_3.out.c0
  have x3_1 := F10_3.out.c1
  have x3_2 := F12_3.out.c0
  have x3_3 := F12_3.out.c1
  go_wp2_with fail
  refine (replaced_any _).mono ?_
  rintro e wz ⟨rfl, hbz⟩
  have BZ := Lib.hid (up_call B3.out hbz)
  clear hbz
  go_wp2_with fail
  go_ret
  exact ⟨rfl, BZ.out⟩
end Go.Proofs.Ytbgnckbgpiajjaa
