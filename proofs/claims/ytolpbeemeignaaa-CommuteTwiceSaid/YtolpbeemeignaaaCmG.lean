/-
  The law CommuteTwice, walked.
-/
import Derived.Test.YtolpbeemeignaaaCmF
import Derived.Test.YtolpbeemeignaaaPat
namespace Go.Proofs.Ytolpbeemeignaaa
open Go.RowKit
set_option maxRecDepth 4000

namespace Tp
theorem e_ok {p q : List H} (h : eB p q = true) : eOk p q ∧ eC p q = 0 ∧ eA1 p q = xa p q ∧ eA2 p q = xb p q := by
  have k : eOk p q := (@decide_eq_true_iff _ (Classical.propDecidable _)).1 h
  have := e_good (prC_zero.2 ⟨k.1.vp, k.1.vq⟩) k.1.nt ⟨pC_zero.2 k.2.1, pC_zero.2 k.2.2⟩
  exact ⟨k, this.1, this.2.2.2.1, this.2.2.2.2⟩
theorem ok_e {p q : List H} (k : eOk p q) : eB p q = true ∧ eC p q = 0 ∧ eA1 p q = xa p q ∧ eA2 p q = xb p q := by
  have := e_good (prC_zero.2 ⟨k.1.vp, k.1.vq⟩) k.1.nt ⟨pC_zero.2 k.2.1, pC_zero.2 k.2.2⟩
  exact ⟨this.2.2.1, this.1, this.2.2.2.1, this.2.2.2.2⟩
theorem e_twice {p q : List H} (k : eOk p q) : eB (xa p q) (xb p q) = true ∧ eC (xa p q) (xb p q) = 0 ∧ eA1 (xa p q) (xb p q) = p ∧ eA2 (xa p q) (xb p q) = q := by
  obtain ⟨h1, h2, h3⟩ := k.1.twice k.2.1 k.2.2
  have := ok_e (p := xa p q) (q := xb p q) ⟨h1, by rw [h2]; exact k.1.vp, by rw [h3]; exact k.1.vq⟩
  rwa [h2, h3] at this
end Tp

set_option maxRecDepth 100000 in
set_option maxHeartbeats 4000000 in
theorem twice_walk (p : Option Addr) (hs : List Tp.H) (cap : Nat) (q : Option Addr) (ks : List Tp.H) (cap' : Nat) (w : World) (hp : Ptc w p hs) (_hc : p = none → cap = 0) (hl : hs.length ≤ 2513169434845) (_hlc : hs.length ≤ cap) (_hf : ∀ k ∈ hs, fits63 k.at')
    (hq : Ptc w q ks) (_hc' : q = none → cap' = 0) (hl' : ks.length ≤ 2513169434845) (_hlc' : ks.length ≤ cap') (_hf' : ∀ k ∈ ks, fits63 k.at') :
    Calls Try.prog 5 #[.agg #[.slice p hs.length cap], .agg #[.slice q ks.length cap']] w (TPost w) := by
  have b0 := up_alloc (up_alloc (Below.refl w.heap.size w) (.cells #[.slice p hs.length cap] 24 (0, 0))) (.cells #[.slice q ks.length cap'] 24 (0, 0))
  have P0 := Lib.hid (hp.mono b0)
  have Q0 := Lib.hid (hq.mono b0)
  have O0 := Lib.hid ((One.new w (.slice p hs.length cap) 24 w.heap.size rfl).alloc (.cells #[.slice q ks.length cap'] 24 (0, 0)))
  have S0 := Lib.hid (One.new (w.alloc (.cells #[.slice p hs.length cap] 24 (0, 0))) (.slice q ks.length cap') 24 (w.heap.size + 1) (by simp))
  have B0 := Lib.hid b0
  clear hp hq b0
  go_enter Try.func5, Try.ntmps5
  go_wp2_with fail
  refine (cmCommute_any p q hs ks _ cap _ cap' _ rfl rfl P0.out Q0.out hl hl').mono ?_
  rintro e w1 ⟨pa, ca, pb, cb, rfl, ha, -, -, hb, -, -, hb1⟩
  have a1 := up_alloc (up_alloc (up_alloc (Below.refl w1.heap.size w1) (.cells #[.slice pa (Tp.eA1 hs ks).length ca] 24 (0, 0))) (.cells #[.slice pb (Tp.eA2 hs ks).length cb] 24 (0, 0))) (.cells #[.int .i64 (Tp.eC hs ks), .int .i64 (Tp.eI hs ks)] 26 (0, 0))
  have B1 := Lib.hid (up_call (up_call B0.out hb1) a1)
  have P1 := Lib.hid ((P0.out.mono hb1).mono a1)
  have Q1 := Lib.hid ((Q0.out.mono hb1).mono a1)
  have O1 := Lib.hid ((O0.out.up hb1).up a1)
  have S1 := Lib.hid ((S0.out.up hb1).up a1)
  have A1 := Lib.hid (ha.self.mono a1)
  have D1 := Lib.hid (hb.self.mono a1)
  have CA := Lib.hid (((One.new w1 (.slice pa (Tp.eA1 hs ks).length ca) 24 w1.heap.size rfl).alloc (.cells #[.slice pb (Tp.eA2 hs ks).length cb] 24 (0, 0))).alloc (.cells #[.int .i64 (Tp.eC hs ks), .int .i64 (Tp.eI hs ks)] 26 (0, 0)))
  have CB := Lib.hid ((One.new (w1.alloc (.cells #[.slice pa (Tp.eA1 hs ks).length ca] 24 (0, 0))) (.slice pb (Tp.eA2 hs ks).length cb) 24 (w1.heap.size + 1) (by simp)).alloc (.cells #[.int .i64 (Tp.eC hs ks), .int .i64 (Tp.eI hs ks)] 26 (0, 0)))
  clear ha hb hb1 a1 B0 P0 Q0 O0 S0
  by_cases hC : Tp.eC hs ks = 0
  · cases hB : Tp.eB hs ks
    · rw [hC] at B1 ⊢
      clear hC
      go_wp2_with fail
      refine (exchanged_any _).mono ?_
      rintro e w4 ⟨rfl, hb4⟩
      have B4 := Lib.hid (up_call B1.out hb4)
      clear hb4 B1
      go_wp2_with fail
      go_ret
      exact ⟨rfl, B4.out⟩
    · obtain ⟨hok, -, e1, e2⟩ := Tp.e_ok hB
      have OK := Lib.hid hok
      have TW := Lib.hid (Tp.e_twice hok)
      have l1 := hok.1.vp.len
      have l2 := hok.1.vq.len
      have l3 := hok.2.1.len
      have l4 := hok.2.2.len
      rw [hC, e1, e2] at B1 P1 Q1 O1 S1 A1 D1 CA CB ⊢
      clear hC hok e1 e2
      have ac := CA.out.c
      have bc := CB.out.c
      go_wp2_with fail
      refine (cmCommute_any pa pb (Tp.xa hs ks) (Tp.xb hs ks) _ ca _ cb _ rfl rfl A1.out D1.out (by omega) (by omega)).mono ?_
      rintro e w2 ⟨pc, cc, pd, cd, rfl, hc, -, -, hd, -, -, hb2⟩
      rw [TW.out.1, TW.out.2.1]
      rw [TW.out.2.2.1] at hc ⊢
      rw [TW.out.2.2.2] at hd ⊢
      have a2 := up_alloc (up_alloc (up_alloc (Below.refl w2.heap.size w2) (.cells #[.slice pc hs.length cc] 24 (0, 0))) (.cells #[.slice pd ks.length cd] 24 (0, 0))) (.cells #[.int .i64 0, .int .i64 (Tp.eI (Tp.xa hs ks) (Tp.xb hs ks))] 26 (0, 0))
      have B2 := Lib.hid (up_call (up_call B1.out hb2) a2)
      have P2 := Lib.hid ((P1.out.mono hb2).mono a2)
      have Q2 := Lib.hid ((Q1.out.mono hb2).mono a2)
      have O2 := Lib.hid ((O1.out.up hb2).up a2)
      have S2 := Lib.hid ((S1.out.up hb2).up a2)
      have A2 := Lib.hid (hc.self.mono a2)
      have D2 := Lib.hid (hd.self.mono a2)
      have CC := Lib.hid (((One.new w2 (.slice pc hs.length cc) 24 w2.heap.size rfl).alloc (.cells #[.slice pd ks.length cd] 24 (0, 0))).alloc (.cells #[.int .i64 0, .int .i64 (Tp.eI (Tp.xa hs ks) (Tp.xb hs ks))] 26 (0, 0)))
      have CD := Lib.hid ((One.new (w2.alloc (.cells #[.slice pc hs.length cc] 24 (0, 0))) (.slice pd ks.length cd) 24 (w2.heap.size + 1) (by simp)).alloc (.cells #[.int .i64 0, .int .i64 (Tp.eI (Tp.xa hs ks) (Tp.xb hs ks))] 26 (0, 0)))
      clear hc hd hb2 a2 B1 P1 Q1 O1 S1 A1 D1 CA CB ac bc
      have oc := O2.out.c
      have c2 := CC.out.c
      go_wp2_with fail
      refine (patchEq_any pc p hs hs _ _ cc cap _ rfl rfl A2.out P2.out (by omega)).mono ?_
      rintro e w3 ⟨rfl, hb3⟩
      rw [eqP_true rfl]
      have B3 := Lib.hid (up_call B2.out hb3)
      have Q3 := Lib.hid (Q2.out.mono hb3)
      have D3 := Lib.hid (D2.out.mono hb3)
      have sc := (S2.out.up hb3).c
      have dc := (CD.out.up hb3).c
      clear hb3 B2 oc c2
      go_wp2_with fail
      refine (patchEq_any pd q ks ks _ _ cd cap' _ rfl rfl D3.out Q3.out (by omega)).mono ?_
      rintro e w4 ⟨rfl, hb4⟩
      rw [eqP_true rfl]
      have B4 := Lib.hid (up_call B3.out hb4)
      clear hb4 B3 sc dc
      go_wp2_with fail
      refine (exchanged_any _).mono ?_
      rintro e w5 ⟨rfl, hb5⟩
      have B5 := Lib.hid (up_call B4.out hb5)
      clear hb5
      go_wp2_with fail
      go_ret
      exact ⟨rfl, B5.out⟩
  · have hne : (Tp.eC hs ks != 0) = true := by simpa using hC
    go_wp2_with fail
    refine (exchanged_any _).mono ?_
    rintro e w4 ⟨rfl, hb4⟩
    have B4 := Lib.hid (up_call B1.out hb4)
    clear hb4 B1
    go_wp2_with fail
    go_ret
    exact ⟨rfl, B4.out⟩
end Go.Proofs.Ytolpbeemeignaaa
