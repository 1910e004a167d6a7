/-
  What the laws on exchanged patches say, in plain mathematics.
-/
import Derived.Test.YtolpbeemeignaaaCmF
import Derived.Test.YtolpbeemeignaaaPat
import Derived.Test.YtolpbeemeignaaaLinA
namespace Go.Proofs.Ytolpbeemeignaaa
open Go.RowKit
set_option maxRecDepth 4000

theorem eA_len (p q : List Tp.H) : (Tp.eA1 p q).length ≤ 130 ∧ (Tp.eA2 p q).length ≤ 130 := by
  cases h : Tp.eB p q
  · have e1 : Tp.eA1 p q = [] := if_neg (by rw [h]; decide)
    have e2 : Tp.eA2 p q = [] := if_neg (by rw [h]; decide)
    rw [e1, e2]; exact ⟨Nat.zero_le _, Nat.zero_le _⟩
  · obtain ⟨k, -, e1, e2⟩ := Tp.e_ok h
    rw [e1, e2]; exact ⟨k.2.1.len, k.2.2.len⟩
theorem vT_len (p : List Tp.H) : (Tp.vT p).length ≤ 130 := by
  by_cases h : Tp.vC' p = 0
  · have e : Tp.vT p = Tp.iv 0 p := if_pos h
    rw [e]; exact (Tp.vC'_zero.1 h).2.len
  · have e : Tp.vT p = [] := if_neg h
    rw [e]; exact Nat.zero_le _
theorem rA_len (p q : List Tp.H) : (Tp.rA p q).length ≤ 130 := by
  cases h : Tp.rB p q
  · have e1 : Tp.rA p q = [] := if_neg (by rw [h]; decide)
    rw [e1]; exact Nat.zero_le _
  · have k : Tp.rOk p q := (@decide_eq_true_iff _ (Classical.propDecidable _)).1 h
    have e1 : Tp.rA p q = Tp.bh p (Tp.cg q) := if_pos h
    rw [e1]; exact k.2.2.2.len
theorem aT_len (p : List Tp.H) (t : List ByteArray) : (Tp.aT p t).length ≤ 120 := by
  by_cases h : Tp.aC p t = 0
  · have e : Tp.aT p t = Tp.ap t 0 p := if_pos h
    rw [e]; exact (Tp.aC_zero.1 h).len
  · have e : Tp.aT p t = [] := if_neg h
    rw [e]; exact Nat.zero_le _
theorem aT_small (p : List Tp.H) (t : List ByteArray) : ∀ x ∈ Tp.aT p t, x.size ≤ 140737488351232 := by
  by_cases h : Tp.aC p t = 0
  · have e : Tp.aT p t = Tp.ap t 0 p := if_pos h
    rw [e]; exact Tp.vc_small (Tp.ap_txt (Tp.aC_zero.1 h))
  · have e : Tp.aT p t = [] := if_neg h
    rw [e]; exact fun x hx => by cases hx

namespace Tp
theorem v_zero {p : List H} (h : vC' p = 0) : vT p = iv 0 p ∧ Vp p ∧ Vp (iv 0 p) := ⟨if_pos h, vC'_zero.1 h⟩
theorem e_inverse {p q : List H} (hB : eB p q = true) (h1 : vC' p = 0) (h2 : vC' q = 0) (h3 : vC' (eA2 p q) = 0) (h4 : vC' (eA1 p q) = 0) :
    eB (vT q) (vT p) = true ∧ eA1 (vT q) (vT p) = vT (eA2 p q) ∧ eA2 (vT q) (vT p) = vT (eA1 p q) := by
  obtain ⟨k, -, e1, e2⟩ := e_ok hB
  obtain ⟨v1, -, v2⟩ := v_zero h1
  obtain ⟨v3, -, v4⟩ := v_zero h2
  rw [e1] at h4 ⊢
  rw [e2] at h3 ⊢
  obtain ⟨v5, -, v6⟩ := v_zero h3
  obtain ⟨v7, -, v8⟩ := v_zero h4
  rw [v1, v3, v5, v7]
  obtain ⟨j1, j2, j3⟩ := k.1.inverse v2 v4 k.2.1 k.2.2
  have := ok_e (p := iv 0 q) (q := iv 0 p) ⟨j1, by rw [j2]; exact v6, by rw [j3]; exact v8⟩
  rw [j2, j3] at this
  exact ⟨this.1, this.2.2.1, this.2.2.2⟩
/-- a patch that is valid and fits leads to a text, or to one that is too long -/
theorem a_fits {p : List H} {t : List ByteArray} (hv : Vp p) (ht : Lin.vC t = 0) (hf : ∀ h ∈ p, Has t h) (hn : aC p t ≠ 10) : aC p t = 0 := by
  have e1 := pC_zero.2 hv
  have e2 := (cf_none t p 0).2 hf
  unfold aC at hn ⊢
  rw [if_neg (by simp [e1]), if_neg (by simp [ht]), if_neg (by simp [e2])] at hn ⊢
  by_cases h : 120 < (ap t 0 p).length
  · rw [if_pos h] at hn; exact (hn rfl).elim
  · rw [if_neg h]
theorem aT_zero {p : List H} {t : List ByteArray} (h : aC p t = 0) : aT p t = ap t 0 p := if_pos h
theorem e_effect {p q : List H} {t : List ByteArray} (hB : eB p q = true) (h1 : aC p t = 0) (h2 : aC q (aT p t) = 0) (h3 : aC (eA1 p q) t ≠ 10) (h4 : aC (eA2 p q) (aT (eA1 p q) t) ≠ 10) :
    aC (eA1 p q) t = 0 ∧ aC (eA2 p q) (aT (eA1 p q) t) = 0 ∧ aT (eA2 p q) (aT (eA1 p q) t) = aT q (aT p t) := by
  obtain ⟨k, -, e1, e2⟩ := e_ok hB
  rw [e1] at h3 h4 ⊢
  rw [e2] at h4 ⊢
  have o1 := aC_zero.1 h1
  have t1 := aT_zero h1
  have t2 := aT_zero h2
  rw [t1] at h2 t2 ⊢
  have o2 := aC_zero.1 h2
  obtain ⟨f1, f2, f3⟩ := k.1.effect k.2.1 o1 o2
  have h3' := a_fits k.2.1 o1.vt f1 h3
  have t3 := aT_zero h3'
  rw [t3] at h4 ⊢
  have h4' := a_fits k.2.2 (ap_txt (aC_zero.1 h3')) f2 h4
  exact ⟨h3', h4', by rw [aT_zero h4', t2, f3]⟩
theorem r_symm {p q : List H} (h1 : rC p q = 0) (h2 : rC q p = 0) : rB q p = rB p q := by
  have pr : prC p q = 0 := by
    refine Decidable.byContradiction fun k => k ?_
    unfold rC at h1
    rwa [if_pos k] at h1
  obtain ⟨vp, vq⟩ := prC_zero.1 pr
  have qr : prC q p = 0 := prC_zero.2 ⟨vq, vp⟩
  have sy := tch_symm p q
  cases ht : tch p (cg q) with
  | true => rw [(r_touch pr ht).2.2.1, (r_touch qr (by rw [← sy, ht])).2.2.1]
  | false =>
    have c1 : pC (bh p (cg q)) = 0 := by
      refine Decidable.byContradiction fun k => ?_
      rw [(r_large pr ht k).1] at h1; cases h1
    have c2 : pC (bh q (cg p)) = 0 := by
      refine Decidable.byContradiction fun k => ?_
      rw [(r_large qr (by rw [← sy, ht]) k).1] at h2; cases h2
    rw [(r_good pr ht c1).2.2.1, (r_good qr (by rw [← sy, ht]) c2).2.2.1]
theorem r_effect {p q : List H} {t : List ByteArray} (hB : rB p q = true) (k1 : rC p q = 0) (k2 : rC q p = 0) (h1 : aC q t = 0) (h2 : aC p t = 0) (h3 : aC (rA p q) (aT q t) ≠ 10) (h4 : aC (rA q p) (aT p t) ≠ 10) :
    aC (rA p q) (aT q t) = 0 ∧ aC (rA q p) (aT p t) = 0 ∧ aT (rA p q) (aT q t) = aT (rA q p) (aT p t) := by
  have hB' : rB q p = true := by rw [r_symm k1 k2]; exact hB
  have r1 : rOk p q := (@decide_eq_true_iff _ (Classical.propDecidable _)).1 hB
  have r2 : rOk q p := (@decide_eq_true_iff _ (Classical.propDecidable _)).1 hB'
  have e1 : rA p q = bh p (cg q) := if_pos hB
  have e2 : rA q p = bh q (cg p) := if_pos hB'
  rw [e1] at h3 ⊢
  rw [e2] at h4 ⊢
  have o1 := aC_zero.1 h1
  have o2 := aC_zero.1 h2
  rw [aT_zero h1] at h3 ⊢
  rw [aT_zero h2] at h4 ⊢
  have gq := ch_gp r1.2.1.ch
  have gp := ch_gp r1.1.ch
  have aw := tch_false.1 r1.2.2.1
  have f1 := fit_bh gq o2.fit o1.fit aw
  have f2 := fit_bh gp o1.fit o2.fit (aw_symm aw)
  have h3' := a_fits r1.2.2.2 (ap_txt o1) f1 h3
  have h4' := a_fits r2.2.2.2 (ap_txt o2) f2 h4
  refine ⟨h3', h4', ?_⟩
  rw [aT_zero h3', aT_zero h4']
  exact ap_bh gq gp (aw_symm aw) o1.fit o2.fit
end Tp
end Go.Proofs.Ytolpbeemeignaaa
