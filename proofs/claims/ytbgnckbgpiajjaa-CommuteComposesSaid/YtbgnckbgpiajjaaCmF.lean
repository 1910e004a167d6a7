/-
  The law's exchanged, walked.
  What the laws on exchanged patches say, in plain mathematics.
-/
import Derived.Test.YtbgnckbgpiajjaaCmE
import Derived.Test.YtbgnckbgpiajjaaXch
import Derived.Test.YtbgnckbgpiajjaaTpH
import Derived.Test.YtbgnckbgpiajjaaLinA
namespace Go.Proofs.Ytbgnckbgpiajjaa
open Go.RowKit
set_option maxRecDepth 4000

namespace Tp
theorem e_ok {p q : List H} (h : eB p q = true) : eOk p q ∧ eC p q = 0 ∧ eA1 p q = xa p q ∧ eA2 p q = xb p q := by
  have k : eOk p q := (@decide_eq_true_iff _ (Classical.propDecidable _)).1 h
  have := e_good (prC_zero.2 ⟨k.1.vp, k.1.vq⟩) k.1.nt ⟨pC_zero.2 k.2.1, pC_zero.2 k.2.2⟩
  exact ⟨k, this.1, this.2.2.2.1, this.2.2.2.2⟩
theorem ok_e {p q : List H} (k : eOk p q) : eB p q = true ∧ eC p q = 0 ∧ eA1 p q = xa p q ∧ eA2 p q = xb p q := by
  have := e_good (prC_zero.2 ⟨k.1.vp, k.1.vq⟩) k.1.nt ⟨pC_zero.2 k.2.1, pC_zero.2 k.2.2⟩
  exact ⟨this.2.2.1, this.1, this.2.2.2.1, this.2.2.2.2⟩
theorem e_twice {p q : List H} (k : eOk p q) : eB (xa p q) (xb p q) = true ∧ eC (xa p q) (xb p q) = 0 ∧ eA1 (xa p q) (xb p q) = p ∧ eA2 (xa p q) (xb p q) = q := by
  obtain ⟨h1, h2, h3⟩ := k.1.twice k.2.1 k.2.2
  have := ok_e (p := xa p q) (q := xb p q) ⟨h1, by rw [h2]; exact k.1.vp, by rw [h3]; exact k.1.vq⟩
  rwa [h2, h3] at this
end Tp

theorem x_txt : Lin.Txt [rA] ∧ Lin.Txt [rX] ∧ Lin.Txt [] := by
  refine ⟨⟨by decide, ?_⟩, ⟨by decide, ?_⟩, ⟨by decide, fun s hs => by cases hs⟩⟩ <;>
    (intro s hs; simp only [List.mem_cons, List.not_mem_nil, or_false] at hs; subst hs; rfl)
theorem x_vp : Tp.Vp xP ∧ Tp.Vp xQ ∧ Tp.Vp xR := by
  obtain ⟨h1, h2, h3⟩ := x_txt
  exact ⟨⟨by decide, ⟨⟨by decide, by decide, Lin.vC_txt h3, Lin.vC_txt h1, by decide, by decide, by decide⟩, trivial⟩⟩, ⟨by decide, ⟨⟨by decide, by decide, Lin.vC_txt h2, Lin.vC_txt h3, by decide, by decide, by decide⟩, trivial⟩⟩,
    ⟨by decide, ⟨⟨by decide, by decide, Lin.vC_txt h2, Lin.vC_txt h3, by decide, by decide, by decide⟩, trivial⟩⟩⟩
theorem x_a : Tp.xa xP xQ = xR := rfl
theorem x_b : Tp.xb xP xQ = xP := rfl
theorem x_good : Tp.eC xP xQ = 0 ∧ Tp.eI xP xQ = 0 ∧ Tp.eB xP xQ = true ∧ Tp.eA1 xP xQ = xR ∧ Tp.eA2 xP xQ = xP := by
  have := Tp.e_good (p := xP) (q := xQ) (Tp.prC_zero.2 ⟨x_vp.1, x_vp.2.1⟩) (by decide) ⟨by rw [x_a]; exact Tp.pC_zero.2 x_vp.2.2, by rw [x_b]; exact Tp.pC_zero.2 x_vp.1⟩
  rwa [x_a, x_b] at this
theorem x_commute (w : World) (p q : Option Addr) (hp : Ptc w p xP) (hq : Ptc w q xQ) : Calls Try.prog 37 #[.agg #[.slice p 1 1], .agg #[.slice q 1 1]] w fun e w' =>
    ∃ pa ca pb cb, e = .returned (.tuple (xT pa ca pb cb)) ∧ PtAt w.heap.size w' pa xR ∧ PtAt w.heap.size w' pb xP ∧ Below w.heap.size w w' := by
  refine (cmCommute_any p q xP xQ 1 1 1 1 w rfl rfl hp hq (by decide) (by decide)).mono ?_
  rintro e w' ⟨pa, ca, pb, cb, rfl, h1, -, -, h2, -, -, hb⟩
  obtain ⟨e1, e2, e3, e4, e5⟩ := x_good
  rw [e4] at h1
  rw [e5] at h2
  exact ⟨pa, ca, pb, cb, by rw [e1, e2, e3, e4, e5]; rfl, h1, h2, hb⟩
theorem x_hunk (X : World) : Calls Try.prog 76 #[.int .i64 4, .slice (some ⟨X.heap.size, 0, none⟩) 1 1, .slice none 0 0] (X.drew.alloc (.cells #[.string rX] 9 (0, 0))) (fun e w' => ∃ p, e = .returned (.agg #[.slice p 1 1]) ∧ Ptc w' p xR ∧ Below X.heap.size X w') := by
  refine (hunk_any 4 (some ⟨X.heap.size, 0, none⟩, 1, 1) (none, 0, 0) [rX] [] _ (rd_lit X.drew X.heap.size [rX] rfl (by decide) (by decide)) ⟨sts_nil _ _, rfl, fun _ => rfl, Nat.le_refl _⟩).mono ?_
  rintro e wH ⟨pH, rfl, hpH, -, hbH⟩
  exact ⟨pH, rfl, hpH, ((Below.refl _ _).drew.alloc (Nat.le_refl _) _).trans (hbH.mono (by simp))⟩

set_option maxRecDepth 100000 in
set_option maxHeartbeats 8000000 in
theorem exchanged_any (w : World) : Calls Try.prog 38 #[] w (TPost w) := by
  have RA := rd_lit w w.heap.size [rA] rfl (r_small _ (by simp)) (by decide)
  have u0 := up_alloc (Below.refl w.heap.size w) (.cells #[.string rA] 9 (0, 0))
  go_enter Try.func38, Try.ntmps38
  go_wp2_with fail
  refine (hunk_any 0 (none, 0, 0) (some ⟨w.heap.size, 0, none⟩, 1, 1) [] [rA] _ ⟨sts_nil _ _, rfl, fun _ => rfl, Nat.le_refl _⟩ RA).mono ?_
  rintro e w1 ⟨p, rfl, hp, hpn, hb1⟩
  have u1 := Lib.hid (up_alloc (up_call u0 hb1) (.cells #[.slice p 1 1] 41 (0, 0)))
  have P1 := Lib.hid (hp.mono (up_alloc (Below.refl _ _) (.cells #[.slice p 1 1] 41 (0, 0))))
  have O1 := Lib.hid (One.new w1 (.slice p 1 1) 41 w1.heap.size rfl)
  clear RA u0 hb1 hp hpn
  have oc := O1.out.c
  go_wp2_with fail
  obtain ⟨W, hW⟩ : ∃ W, W = w1.alloc (.cells #[.slice p 1 1] 41 (0, 0)) := ⟨_, rfl⟩
  rw [← hW] at u1 P1 O1 oc ⊢
  clear hW
  obtain ⟨gp, hgp⟩ : ∃ g, g = w1.heap.size := ⟨_, rfl⟩
  rw [← hgp] at O1 oc ⊢
  clear hgp
  refine wp_region_held_drew (S := xS gp p) (by kernel_rfl) oc (fun hHeld => ?_)
  obtain ⟨o, ho, hop, hd, hg⟩ := xo0
  change wpAnyH Try.prog .any xOps _ _ 16 #[false, false, false, false, false, false, false, false, false, false, false, false, false, false, false, false] (xF gp (.slice (some ⟨w.heap.size, 0, none⟩) 1 1) (.agg #[.slice p 1 1]) undef undef undef undef undef undef undef undef undef undef undef undef undef) W.drew
  refine wpAnyH_take (v := .agg #[.slice p 1 1]) ho (by kernel_rfl) (by kernel_rfl) (by kernel_rfl) (fun c a w h => by revert h; cases o.dst <;> exact id) (yl_load gp (.slice p 1 1) 1 hop hg rfl) hHeld ?_
  rw [hd]
  refine xH0 (W0 := W) (p := p) O1.out.lt P1.out (fun c a d v w h => by cases d <;> exact h) ?_ x_commute 3 false false false 0 0 0 W.drew rfl
    ⟨(Below.refl _ _).drew, hHeld, (fun e => by cases e), (fun e => by cases e), (fun e => by cases e), (fun e => by cases e), (fun e => by cases e), (fun e => by cases e)⟩
  intro X g2 g3 g5 s10 s11 pa ca pb cb uX cp z2 z3 z5 hpa hpb
  have UX := Lib.hid (up_call u1.out uX)
  have PA := Lib.hid hpa
  have PB := Lib.hid hpb
  have PP := Lib.hid (P1.out.mono uX)
  have c2 := z2.c
  have c3 := z3.c
  have c5 := z5.c0
  have t2 := z2.lt
  have t3 := z3.lt
  have t5 := z5.lt
  have tp := cell_block_lt cp
  have y2 := World.new_ne X ⟨g2, 0, none⟩ c2
  have y3 := World.new_ne X ⟨g3, 0, none⟩ c3
  have y5 := World.new_ne X ⟨g5, 0, none⟩ c5
  have yp := World.new_ne X ⟨gp, 0, none⟩ cp
  have E1 := fun (Y : World) (pH : Option Addr) (h1 : Ptc Y pa xR) (h2 : Ptc Y pH xR) => patchEq_any pa pH xR xR 1 1 ca 1 Y rfl rfl h1 h2 (by decide)
  rw [eqP_true rfl] at E1
  have E2 := fun (Y : World) (h1 : Ptc Y pb xP) (h2 : Ptc Y p xP) => patchEq_any pb p xP xP 1 1 cb 1 Y rfl rfl h1 h2 (by decide)
  rw [eqP_true rfl] at E2
  clear u1 P1 O1 oc uX hpa hpb z2 z3 z5 hHeld ho hop hd hg
  unfold xS at cp
  go_wp2_with fail
  go_region_held3 (fun Y => Y.cell? ⟨g2, 0, none⟩ = some (.slice pa 1 ca) ∧ Y.cell? ⟨g3, 0, none⟩ = some (.slice pb 1 cb) ∧ Y.cell? ⟨gp, 0, none⟩ = some (.slice p 1 1) ∧ Y.cell? ⟨g5, 0, none⟩ = some (.int .i64 0)) (go_keep)
    (first
      | (go_at_call 76
         refine (x_hunk X).mono ?_
         rintro e wH ⟨pH, rfl, hpH, hbH⟩
         have PH := Lib.hid hpH
         have BH := Lib.hid hbH
         have c2H := (hbH.cell (p := ⟨g2, 0, none⟩) t2).trans c2
         have c3H := (hbH.cell (p := ⟨g3, 0, none⟩) t3).trans c3
         have cpH := (hbH.cell (p := ⟨gp, 0, none⟩) tp).trans cp
         have c5H := (hbH.cell (p := ⟨g5, 0, none⟩) t5).trans c5
         clear hpH hbH)
      | (go_at_call_of 30 pa
         refine (E1 _ pH (PA.out.mono BH.out) PH.out).mono ?_
         rintro e wE ⟨rfl, hbE⟩
         have BE : Hid (Below X.heap.size X wE) := Lib.hid (up_call BH.out hbE)
         have c2E := (BE.out.cell (p := ⟨g2, 0, none⟩) t2).trans c2
         have c3E := (BE.out.cell (p := ⟨g3, 0, none⟩) t3).trans c3
         have cpE := (BE.out.cell (p := ⟨gp, 0, none⟩) tp).trans cp
         have c5E := (BE.out.cell (p := ⟨g5, 0, none⟩) t5).trans c5
         clear hbE)
      | (go_at_call_of 30 pb
         refine (E2 _ (PB.out.mono BE.out) (PP.out.mono BE.out)).mono ?_
         rintro e wG ⟨rfl, hbG⟩
         have BG : Hid (Below X.heap.size X wG) := Lib.hid (up_call BE.out hbG)
         have c2G := (BG.out.cell (p := ⟨g2, 0, none⟩) t2).trans c2
         have c3G := (BG.out.cell (p := ⟨g3, 0, none⟩) t3).trans c3
         have cpG := (BG.out.cell (p := ⟨gp, 0, none⟩) tp).trans cp
         have c5G := (BG.out.cell (p := ⟨g5, 0, none⟩) t5).trans c5
         clear hbG))
  all_goals
    have uF := up_call UX.out BG.out
    go_wp2_with fail
    go_ret
    exact ⟨rfl, uF⟩
end Go.Proofs.Ytbgnckbgpiajjaa
namespace Go.Proofs.Ytbgnckbgpiajjaa
open Go.RowKit

theorem eA_len (p q : List Tp.H) : (Tp.eA1 p q).length ≤ 130 ∧ (Tp.eA2 p q).length ≤ 130 := by
  cases h : Tp.eB p q
  · have e1 : Tp.eA1 p q = [] := if_neg (by rw [h]; decide)
    have e2 : Tp.eA2 p q = [] := if_neg (by rw [h]; decide)
    rw [e1, e2]; exact ⟨Nat.zero_le _, Nat.zero_le _⟩
  · obtain ⟨k, -, e1, e2⟩ := Tp.e_ok h
    rw [e1, e2]; exact ⟨k.2.1.len, k.2.2.len⟩
theorem vT_len (p : List Tp.H) : (Tp.vT p).length ≤ 130 := by
  by_cases h : Tp.vC' p = 0
  · have e : Tp.vT p = Tp.iv 0 p := if_pos h
    rw [e]; exact (Tp.vC'_zero.1 h).2.len
  · have e : Tp.vT p = [] := if_neg h
    rw [e]; exact Nat.zero_le _
theorem rA_len (p q : List Tp.H) : (Tp.rA p q).length ≤ 130 := by
  cases h : Tp.rB p q
  · have e1 : Tp.rA p q = [] := if_neg (by rw [h]; decide)
    rw [e1]; exact Nat.zero_le _
  · have k : Tp.rOk p q := (@decide_eq_true_iff _ (Classical.propDecidable _)).1 h
    have e1 : Tp.rA p q = Tp.bh p (Tp.cg q) := if_pos h
    rw [e1]; exact k.2.2.2.len
theorem aT_len (p : List Tp.H) (t : List ByteArray) : (Tp.aT p t).length ≤ 120 := by
  by_cases h : Tp.aC p t = 0
  · have e : Tp.aT p t = Tp.ap t 0 p := if_pos h
    rw [e]; exact (Tp.aC_zero.1 h).len
  · have e : Tp.aT p t = [] := if_neg h
    rw [e]; exact Nat.zero_le _
theorem aT_small (p : List Tp.H) (t : List ByteArray) : ∀ x ∈ Tp.aT p t, x.size ≤ 140737488351232 := by
  by_cases h : Tp.aC p t = 0
  · have e : Tp.aT p t = Tp.ap t 0 p := if_pos h
    rw [e]; exact Tp.vc_small (Tp.ap_txt (Tp.aC_zero.1 h))
  · have e : Tp.aT p t = [] := if_neg h
    rw [e]; exact fun x hx => by cases hx

namespace Tp
theorem v_zero {p : List H} (h : vC' p = 0) : vT p = iv 0 p ∧ Vp p ∧ Vp (iv 0 p) := ⟨if_pos h, vC'_zero.1 h⟩
theorem e_inverse {p q : List H} (hB : eB p q = true) (h1 : vC' p = 0) (h2 : vC' q = 0) (h3 : vC' (eA2 p q) = 0) (h4 : vC' (eA1 p q) = 0) :
    eB (vT q) (vT p) = true ∧ eA1 (vT q) (vT p) = vT (eA2 p q) ∧ eA2 (vT q) (vT p) = vT (eA1 p q) := by
  obtain ⟨k, -, e1, e2⟩ := e_ok hB
  obtain ⟨v1, -, v2⟩ := v_zero h1
  obtain ⟨v3, -, v4⟩ := v_zero h2
  rw [e1] at h4 ⊢
  rw [e2] at h3 ⊢
  obtain ⟨v5, -, v6⟩ := v_zero h3
  obtain ⟨v7, -, v8⟩ := v_zero h4
  rw [v1, v3, v5, v7]
  obtain ⟨j1, j2, j3⟩ := k.1.inverse v2 v4 k.2.1 k.2.2
  have := ok_e (p := iv 0 q) (q := iv 0 p) ⟨j1, by rw [j2]; exact v6, by rw [j3]; exact v8⟩
  rw [j2, j3] at this
  exact ⟨this.1, this.2.2.1, this.2.2.2⟩
/-- a patch that is valid and fits leads to a text, or to one that is too long -/
theorem a_fits {p : List H} {t : List ByteArray} (hv : Vp p) (ht : Lin.vC t = 0) (hf : ∀ h ∈ p, Has t h) (hn : aC p t ≠ 10) : aC p t = 0 := by
  have e1 := pC_zero.2 hv
  have e2 := (cf_none t p 0).2 hf
  unfold aC at hn ⊢
  rw [if_neg (by simp [e1]), if_neg (by simp [ht]), if_neg (by simp [e2])] at hn ⊢
  by_cases h : 120 < (ap t 0 p).length
  · rw [if_pos h] at hn; exact (hn rfl).elim
  · rw [if_neg h]
theorem aT_zero {p : List H} {t : List ByteArray} (h : aC p t = 0) : aT p t = ap t 0 p := if_pos h
theorem e_effect {p q : List H} {t : List ByteArray} (hB : eB p q = true) (h1 : aC p t = 0) (h2 : aC q (aT p t) = 0) (h3 : aC (eA1 p q) t ≠ 10) (h4 : aC (eA2 p q) (aT (eA1 p q) t) ≠ 10) :
    aC (eA1 p q) t = 0 ∧ aC (eA2 p q) (aT (eA1 p q) t) = 0 ∧ aT (eA2 p q) (aT (eA1 p q) t) = aT q (aT p t) := by
  obtain ⟨k, -, e1, e2⟩ := e_ok hB
  rw [e1] at h3 h4 ⊢
  rw [e2] at h4 ⊢
  have o1 := aC_zero.1 h1
  have t1 := aT_zero h1
  have t2 := aT_zero h2
  rw [t1] at h2 t2 ⊢
  have o2 := aC_zero.1 h2
  obtain ⟨f1, f2, f3⟩ := k.1.effect k.2.1 o1 o2
  have h3' := a_fits k.2.1 o1.vt f1 h3
  have t3 := aT_zero h3'
  rw [t3] at h4 ⊢
  have h4' := a_fits k.2.2 (ap_txt (aC_zero.1 h3')) f2 h4
  exact ⟨h3', h4', by rw [aT_zero h4', t2, f3]⟩
theorem r_symm {p q : List H} (h1 : rC p q = 0) (h2 : rC q p = 0) : rB q p = rB p q := by
  have pr : prC p q = 0 := by
    refine Decidable.byContradiction fun k => k ?_
    unfold rC at h1
    rwa [if_pos k] at h1
  obtain ⟨vp, vq⟩ := prC_zero.1 pr
  have qr : prC q p = 0 := prC_zero.2 ⟨vq, vp⟩
  have sy := tch_symm p q
  cases ht : tch p (cg q) with
  | true => rw [(r_touch pr ht).2.2.1, (r_touch qr (by rw [← sy, ht])).2.2.1]
  | false =>
    have c1 : pC (bh p (cg q)) = 0 := by
      refine Decidable.byContradiction fun k => ?_
      rw [(r_large pr ht k).1] at h1; cases h1
    have c2 : pC (bh q (cg p)) = 0 := by
      refine Decidable.byContradiction fun k => ?_
      rw [(r_large qr (by rw [← sy, ht]) k).1] at h2; cases h2
    rw [(r_good pr ht c1).2.2.1, (r_good qr (by rw [← sy, ht]) c2).2.2.1]
theorem r_effect {p q : List H} {t : List ByteArray} (hB : rB p q = true) (k1 : rC p q = 0) (k2 : rC q p = 0) (h1 : aC q t = 0) (h2 : aC p t = 0) (h3 : aC (rA p q) (aT q t) ≠ 10) (h4 : aC (rA q p) (aT p t) ≠ 10) :
    aC (rA p q) (aT q t) = 0 ∧ aC (rA q p) (aT p t) = 0 ∧ aT (rA p q) (aT q t) = aT (rA q p) (aT p t) := by
  have hB' : rB q p = true := by rw [r_symm k1 k2]; exact hB
  have r1 : rOk p q := (@decide_eq_true_iff _ (Classical.propDecidable _)).1 hB
  have r2 : rOk q p := (@decide_eq_true_iff _ (Classical.propDecidable _)).1 hB'
  have e1 : rA p q = bh p (cg q) := if_pos hB
  have e2 : rA q p = bh q (cg p) := if_pos hB'
  rw [e1] at h3 ⊢
  rw [e2] at h4 ⊢
  have o1 := aC_zero.1 h1
  have o2 := aC_zero.1 h2
  rw [aT_zero h1] at h3 ⊢
  rw [aT_zero h2] at h4 ⊢
  have gq := ch_gp r1.2.1.ch
  have gp := ch_gp r1.1.ch
  have aw := tch_false.1 r1.2.2.1
  have f1 := fit_bh gq o2.fit o1.fit aw
  have f2 := fit_bh gp o1.fit o2.fit (aw_symm aw)
  have h3' := a_fits r1.2.2.2 (ap_txt o1) f1 h3
  have h4' := a_fits r2.2.2.2 (ap_txt o2) f2 h4
  refine ⟨h3', h4', ?_⟩
  rw [aT_zero h3', aT_zero h4']
  exact ap_bh gq gp (aw_symm aw) o1.fit o2.fit
end Tp
end Go.Proofs.Ytbgnckbgpiajjaa
