/-
  The law's exchanged, walked.
-/
import Derived.Test.YtolpbeemeignaaaCmE
import Derived.Test.YtolpbeemeignaaaXch
namespace Go.Proofs.Ytolpbeemeignaaa
open Go.RowKit
set_option maxRecDepth 4000

namespace Tp
theorem e_ok {p q : List H} (h : eB p q = true) : eOk p q ∧ eC p q = 0 ∧ eA1 p q = xa p q ∧ eA2 p q = xb p q := by
  have k : eOk p q := (@decide_eq_true_iff _ (Classical.propDecidable _)).1 h
  have := e_good (prC_zero.2 ⟨k.1.vp, k.1.vq⟩) k.1.nt ⟨pC_zero.2 k.2.1, pC_zero.2 k.2.2⟩
  exact ⟨k, this.1, this.2.2.2.1, this.2.2.2.2⟩
theorem ok_e {p q : List H} (k : eOk p q) : eB p q = true ∧ eC p q = 0 ∧ eA1 p q = xa p q ∧ eA2 p q = xb p q := by
  have := e_good (prC_zero.2 ⟨k.1.vp, k.1.vq⟩) k.1.nt ⟨pC_zero.2 k.2.1, pC_zero.2 k.2.2⟩
  exact ⟨this.2.2.1, this.1, this.2.2.2.1, this.2.2.2.2⟩
theorem e_twice {p q : List H} (k : eOk p q) : eB (xa p q) (xb p q) = true ∧ eC (xa p q) (xb p q) = 0 ∧ eA1 (xa p q) (xb p q) = p ∧ eA2 (xa p q) (xb p q) = q := by
  obtain ⟨h1, h2, h3⟩ := k.1.twice k.2.1 k.2.2
  have := ok_e (p := xa p q) (q := xb p q) ⟨h1, by rw [h2]; exact k.1.vp, by rw [h3]; exact k.1.vq⟩
  rwa [h2, h3] at this
end Tp

theorem x_txt : Lin.Txt [rA] ∧ Lin.Txt [rX] ∧ Lin.Txt [] := by
  refine ⟨⟨by decide, ?_⟩, ⟨by decide, ?_⟩, ⟨by decide, fun s hs => by cases hs⟩⟩ <;>
    (intro s hs; simp only [List.mem_cons, List.not_mem_nil, or_false] at hs; subst hs; rfl)
theorem x_vp : Tp.Vp xP ∧ Tp.Vp xQ ∧ Tp.Vp xR := by
  obtain ⟨h1, h2, h3⟩ := x_txt
  exact ⟨⟨by decide, ⟨⟨by decide, by decide, Lin.vC_txt h3, Lin.vC_txt h1, by decide, by decide, by decide⟩, trivial⟩⟩, ⟨by decide, ⟨⟨by decide, by decide, Lin.vC_txt h2, Lin.vC_txt h3, by decide, by decide, by decide⟩, trivial⟩⟩,
    ⟨by decide, ⟨⟨by decide, by decide, Lin.vC_txt h2, Lin.vC_txt h3, by decide, by decide, by decide⟩, trivial⟩⟩⟩
theorem x_a : Tp.xa xP xQ = xR := rfl
theorem x_b : Tp.xb xP xQ = xP := rfl
theorem x_good : Tp.eC xP xQ = 0 ∧ Tp.eI xP xQ = 0 ∧ Tp.eB xP xQ = true ∧ Tp.eA1 xP xQ = xR ∧ Tp.eA2 xP xQ = xP := by
  have := Tp.e_good (p := xP) (q := xQ) (Tp.prC_zero.2 ⟨x_vp.1, x_vp.2.1⟩) (by decide) ⟨by rw [x_a]; exact Tp.pC_zero.2 x_vp.2.2, by rw [x_b]; exact Tp.pC_zero.2 x_vp.1⟩
  rwa [x_a, x_b] at this
theorem x_commute (w : World) (p q : Option Addr) (hp : Ptc w p xP) (hq : Ptc w q xQ) : Calls Try.prog 13 #[.agg #[.slice p 1 1], .agg #[.slice q 1 1]] w fun e w' =>
    ∃ pa ca pb cb, e = .returned (.tuple (xT pa ca pb cb)) ∧ PtAt w.heap.size w' pa xR ∧ PtAt w.heap.size w' pb xP ∧ Below w.heap.size w w' := by
  refine (cmCommute_any p q xP xQ 1 1 1 1 w rfl rfl hp hq (by decide) (by decide)).mono ?_
  rintro e w' ⟨pa, ca, pb, cb, rfl, h1, -, -, h2, -, -, hb⟩
  obtain ⟨e1, e2, e3, e4, e5⟩ := x_good
  rw [e4] at h1
  rw [e5] at h2
  exact ⟨pa, ca, pb, cb, by rw [e1, e2, e3, e4, e5]; rfl, h1, h2, hb⟩
theorem x_hunk (X : World) : Calls Try.prog 44 #[.int .i64 4, .slice (some ⟨X.heap.size, 0, none⟩) 1 1, .slice none 0 0] (X.drew.alloc (.cells #[.string rX] 9 (0, 0))) (fun e w' => ∃ p, e = .returned (.agg #[.slice p 1 1]) ∧ Ptc w' p xR ∧ Below X.heap.size X w') := by
  refine (hunk_any 4 (some ⟨X.heap.size, 0, none⟩, 1, 1) (none, 0, 0) [rX] [] _ (rd_lit X.drew X.heap.size [rX] rfl (by decide) (by decide)) ⟨sts_nil _ _, rfl, fun _ => rfl, Nat.le_refl _⟩).mono ?_
  rintro e wH ⟨pH, rfl, hpH, -, hbH⟩
  exact ⟨pH, rfl, hpH, ((Below.refl _ _).drew.alloc (Nat.le_refl _) _).trans (hbH.mono (by simp))⟩

set_option maxRecDepth 100000 in
set_option maxHeartbeats 8000000 in
theorem exchanged_any (w : World) : Calls Try.prog 18 #[] w (TPost w) := by
  have RA := rd_lit w w.heap.size [rA] rfl (r_small _ (by simp)) (by decide)
  have u0 := up_alloc (Below.refl w.heap.size w) (.cells #[.string rA] 9 (0, 0))
  go_enter Try.func18, Try.ntmps18
  go_wp2_with fail
  refine (hunk_any 0 (none, 0, 0) (some ⟨w.heap.size, 0, none⟩, 1, 1) [] [rA] _ ⟨sts_nil _ _, rfl, fun _ => rfl, Nat.le_refl _⟩ RA).mono ?_
  rintro e w1 ⟨p, rfl, hp, hpn, hb1⟩
  have u1 := Lib.hid (up_alloc (up_call u0 hb1) (.cells #[.slice p 1 1] 24 (0, 0)))
  have P1 := Lib.hid (hp.mono (up_alloc (Below.refl _ _) (.cells #[.slice p 1 1] 24 (0, 0))))
  have O1 := Lib.hid (One.new w1 (.slice p 1 1) 24 w1.heap.size rfl)
  clear RA u0 hb1 hp hpn
  have oc := O1.out.c
  go_wp2_with fail
  obtain ⟨W, hW⟩ : ∃ W, W = w1.alloc (.cells #[.slice p 1 1] 24 (0, 0)) := ⟨_, rfl⟩
  rw [← hW] at u1 P1 O1 oc ⊢
  clear hW
  obtain ⟨gp, hgp⟩ : ∃ g, g = w1.heap.size := ⟨_, rfl⟩
  rw [← hgp] at O1 oc ⊢
  clear hgp
  refine wp_region_held_drew (S := xS gp p) (by kernel_rfl) oc (fun hHeld => ?_)
  obtain ⟨o, ho, hop, hd, hg⟩ := xo0
  change wpAnyH Try.prog .any xOps _ _ 16 #[false, false, false, false, false, false, false, false, false, false, false, false, false, false, false, false] (xF gp (.slice (some ⟨w.heap.size, 0, none⟩) 1 1) (.agg #[.slice p 1 1]) undef undef undef undef undef undef undef undef undef undef undef undef undef) W.drew
  refine wpAnyH_take (v := .agg #[.slice p 1 1]) ho (by kernel_rfl) (by kernel_rfl) (by kernel_rfl) (fun c a w h => by revert h; cases o.dst <;> exact id) (yl_load gp (.slice p 1 1) 1 hop hg rfl) hHeld ?_
  rw [hd]
  refine xH0 (W0 := W) (p := p) O1.out.lt P1.out (fun c a d v w h => by cases d <;> exact h) ?_ x_commute 3 false false false 0 0 0 W.drew rfl
    ⟨(Below.refl _ _).drew, hHeld, (fun e => by cases e), (fun e => by cases e), (fun e => by cases e), (fun e => by cases e), (fun e => by cases e), (fun e => by cases e)⟩
  intro X g2 g3 g5 s10 s11 pa ca pb cb uX cp z2 z3 z5 hpa hpb
  have UX := Lib.hid (up_call u1.out uX)
  have PA := Lib.hid hpa
  have PB := Lib.hid hpb
  have PP := Lib.hid (P1.out.mono uX)
  have c2 := z2.c
  have c3 := z3.c
  have c5 := z5.c0
  have t2 := z2.lt
  have t3 := z3.lt
  have t5 := z5.lt
  have tp := cell_block_lt cp
  have y2 := World.new_ne X ⟨g2, 0, none⟩ c2
  have y3 := World.new_ne X ⟨g3, 0, none⟩ c3
  have y5 := World.new_ne X ⟨g5, 0, none⟩ c5
  have yp := World.new_ne X ⟨gp, 0, none⟩ cp
  have E1 := fun (Y : World) (pH : Option Addr) (h1 : Ptc Y pa xR) (h2 : Ptc Y pH xR) => patchEq_any pa pH xR xR 1 1 ca 1 Y rfl rfl h1 h2 (by decide)
  rw [eqP_true rfl] at E1
  have E2 := fun (Y : World) (h1 : Ptc Y pb xP) (h2 : Ptc Y p xP) => patchEq_any pb p xP xP 1 1 cb 1 Y rfl rfl h1 h2 (by decide)
  rw [eqP_true rfl] at E2
  clear u1 P1 O1 oc uX hpa hpb z2 z3 z5 hHeld ho hop hd hg
  unfold xS at cp
  go_wp2_with fail
  go_region_held3 (fun Y => Y.cell? ⟨g2, 0, none⟩ = some (.slice pa 1 ca) ∧ Y.cell? ⟨g3, 0, none⟩ = some (.slice pb 1 cb) ∧ Y.cell? ⟨gp, 0, none⟩ = some (.slice p 1 1) ∧ Y.cell? ⟨g5, 0, none⟩ = some (.int .i64 0)) (go_keep)
    (first
      | (go_at_call 44
         refine (x_hunk X).mono ?_
         rintro e wH ⟨pH, rfl, hpH, hbH⟩
         have PH := Lib.hid hpH
         have BH := Lib.hid hbH
         have c2H := (hbH.cell (p := ⟨g2, 0, none⟩) t2).trans c2
         have c3H := (hbH.cell (p := ⟨g3, 0, none⟩) t3).trans c3
         have cpH := (hbH.cell (p := ⟨gp, 0, none⟩) tp).trans cp
         have c5H := (hbH.cell (p := ⟨g5, 0, none⟩) t5).trans c5
         clear hpH hbH)
      | (go_at_call_of 17 pa
         refine (E1 _ pH (PA.out.mono BH.out) PH.out).mono ?_
         rintro e wE ⟨rfl, hbE⟩
         have BE : Hid (Below X.heap.size X wE) := Lib.hid (up_call BH.out hbE)
         have c2E := (BE.out.cell (p := ⟨g2, 0, none⟩) t2).trans c2
         have c3E := (BE.out.cell (p := ⟨g3, 0, none⟩) t3).trans c3
         have cpE := (BE.out.cell (p := ⟨gp, 0, none⟩) tp).trans cp
         have c5E := (BE.out.cell (p := ⟨g5, 0, none⟩) t5).trans c5
         clear hbE)
      | (go_at_call_of 17 pb
         refine (E2 _ (PB.out.mono BE.out) (PP.out.mono BE.out)).mono ?_
         rintro e wG ⟨rfl, hbG⟩
         have BG : Hid (Below X.heap.size X wG) := Lib.hid (up_call BE.out hbG)
         have c2G := (BG.out.cell (p := ⟨g2, 0, none⟩) t2).trans c2
         have c3G := (BG.out.cell (p := ⟨g3, 0, none⟩) t3).trans c3
         have cpG := (BG.out.cell (p := ⟨gp, 0, none⟩) tp).trans cp
         have c5G := (BG.out.cell (p := ⟨g5, 0, none⟩) t5).trans c5
         clear hbG))
  all_goals
    have uF := up_call UX.out BG.out
    go_wp2_with fail
    go_ret
    exact ⟨rfl, uF⟩
end Go.Proofs.Ytolpbeemeignaaa
