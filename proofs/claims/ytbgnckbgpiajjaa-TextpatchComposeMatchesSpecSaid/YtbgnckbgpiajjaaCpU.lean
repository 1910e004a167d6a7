/-
  What the laws of Compose want.
-/
import Derived.Test.YtbgnckbgpiajjaaCpQ
import Derived.Test.YtbgnckbgpiajjaaTqH
import Derived.Test.YtbgnckbgpiajjaaTpH
namespace Go.Proofs.Ytbgnckbgpiajjaa
open Go.RowKit
set_option maxRecDepth 4000

theorem cT_len (p : List Tp.H) (t : List ByteArray) : (Tp.aT p t).length ≤ 120 := by
  by_cases h : Tp.aC p t = 0
  · have e : Tp.aT p t = Tp.ap t 0 p := if_pos h
    rw [e]; exact (Tp.aC_zero.1 h).len
  · have e : Tp.aT p t = [] := if_neg h
    rw [e]; simp
theorem cT_small (p : List Tp.H) (t : List ByteArray) : ∀ x ∈ Tp.aT p t, x.size ≤ 140737488351232 := by
  by_cases h : Tp.aC p t = 0
  · have e : Tp.aT p t = Tp.ap t 0 p := if_pos h
    rw [e]
    have := Tp.ap_small (Tp.aC_zero.1 h).vp (Tp.aC_zero.1 h).vt 0 0
    rwa [List.drop_zero] at this
  · have e : Tp.aT p t = [] := if_neg h
    rw [e]; intro x hx; cases hx
theorem iT_len (p : List Tp.H) : (Tp.vT p).length ≤ 130 := by
  by_cases h : Tp.vC' p = 0
  · have e : Tp.vT p = Tp.iv 0 p := if_pos h
    rw [e, Tp.iv_len]; exact (Tp.vC'_zero.1 h).1.len
  · have e : Tp.vT p = [] := if_neg h
    rw [e]; simp
theorem coT_len (hs ks : List Tp.H) : (coT hs ks).length ≤ 130 := by
  by_cases h : coC hs ks = 0
  · have e : coT hs ks = Tp.cm hs ks := if_pos h
    rw [e]; exact (coC_zero.1 h).2.2.2.len
  · have e : coT hs ks = [] := if_neg h
    rw [e]; simp
theorem co_good {hs ks : List Tp.H} (h1 : Tp.Vp hs) (h2 : Tp.Vp ks) (h3 : Tp.cfi (Tp.iv 0 hs) ks 0 = none) (h4 : Tp.Vp (Tp.cm hs ks)) : coC hs ks = 0 ∧ coI hs ks = 0 ∧ coT hs ks = Tp.cm hs ks := by
  obtain ⟨e1, e2, e3, -⟩ := co_fit (Tp.prC_zero.2 ⟨h1, h2⟩) (kf_none h3).1
  have l := Tp.pC_zero.2 h4
  exact ⟨by rw [e1]; exact if_pos l, by rw [e2]; exact if_pos l, e3 l⟩
/-- patches that apply one after the other: their composition applies, with the effect of both -/
theorem co_comp {hs ks : List Tp.H} {t : List ByteArray} (h1 : Tp.aC hs t = 0) (h2 : Tp.aC ks (Tp.aT hs t) = 0) :
    coC hs ks = 0 ∧ coT hs ks = Tp.cm hs ks ∧ Tp.aC (coT hs ks) t = 0 ∧ Tp.aT (coT hs ks) t = Tp.aT ks (Tp.aT hs t) := by
  have k1 := Tp.aC_zero.1 h1
  have k2 := Tp.aC_zero.1 h2
  have e : Tp.aT hs t = Tp.ap t 0 hs := if_pos h1
  have e2 : Tp.aT ks (Tp.aT hs t) = Tp.ap (Tp.aT hs t) 0 ks := if_pos h2
  rw [e] at k2
  obtain ⟨c1, c2⟩ := Tp.cm_ok k1 k2 ⟨k1.vt, Tp.ap_txt k2⟩
  obtain ⟨g1, -, g3⟩ := co_good k1.vp k2.vp (Tp.cfi_none (Tp.ap t 0 hs) _ (Tp.undo0 k1).1 ks k2.fit 0) c1.vp
  have g4 : Tp.aC (coT hs ks) t = 0 := by rw [g3]; exact Tp.aC_zero.2 c1
  refine ⟨g1, g3, g4, ?_⟩
  rw [e2, e, ← c2]
  exact (if_pos g4).trans (by rw [g3])
theorem vp_nil : Tp.Vp [] := ⟨by simp, trivial⟩
theorem cfi_nil (q : List Tp.H) : Tp.cfi [] q 0 = none := cfi_calm (fun j hj => cfh_false (fun i hi y hy => by cases hy))
theorem co_right {hs : List Tp.H} (h : Tp.Vp hs) : coC hs [] = 0 ∧ coI hs [] = 0 ∧ coT hs [] = hs := by
  have e := Tp.cm_empty h
  have := co_good h vp_nil rfl (by rw [e]; exact h)
  rwa [e] at this
theorem co_left {hs : List Tp.H} (h : Tp.Vp hs) : coC [] hs = 0 ∧ coI [] hs = 0 ∧ coT [] hs = hs := by
  have e := Tp.cm_empty' h
  have := co_good vp_nil h (cfi_nil hs) (by rw [e]; exact h)
  rwa [e] at this
/-- a patch and its inverse -/
theorem co_undo {hs : List Tp.H} {t : List ByteArray} (h1 : Tp.aC hs t = 0) (h2 : Tp.vC' hs = 0) : Tp.aC (coT hs (Tp.vT hs)) t = 0 ∧ Tp.aT (coT hs (Tp.vT hs)) t = t := by
  have k1 := Tp.aC_zero.1 h1
  have e : Tp.aT hs t = Tp.ap t 0 hs := if_pos h1
  have ev : Tp.vT hs = Tp.iv 0 hs := if_pos h2
  obtain ⟨u1, u2⟩ := Tp.ok_undo k1 (Tp.vC'_zero.1 h2).2
  have h3 : Tp.aC (Tp.vT hs) (Tp.aT hs t) = 0 := by rw [e, ev]; exact Tp.aC_zero.2 u1
  obtain ⟨-, -, g3, g4⟩ := co_comp h1 h3
  refine ⟨g3, g4.trans ((if_pos h3).trans ?_)⟩
  rw [e, ev, u2]
theorem co_grown {hs : List Tp.H} {t : List ByteArray} (h1 : Tp.aC hs t = 0) : ((Tp.aT hs t).length : Int) = t.length + Tp.gr hs := by
  have e : Tp.aT hs t = Tp.ap t 0 hs := if_pos h1
  rw [e]; exact Tp.ok_len (Tp.aC_zero.1 h1)
theorem vp_each {hs : List Tp.H} (h : Tp.Vp hs) : ∀ x ∈ hs, x.old.length ≤ 120 ∧ x.new.length ≤ 120 := fun x hx => by
  have := Tp.ch_new h.ch x hx
  exact ⟨(Lin.vC_zero this.2).1, (Lin.vC_zero this.1).1⟩
theorem ptc_nil (w : World) : Ptc w none [] := ⟨fun _ => rfl, fun h => (h rfl).elim⟩
end Go.Proofs.Ytbgnckbgpiajjaa
