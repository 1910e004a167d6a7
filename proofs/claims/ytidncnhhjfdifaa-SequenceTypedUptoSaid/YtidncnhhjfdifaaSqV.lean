
/-
  Plain mathematics of sequence: every insertion of a valid set is visited once.
-/
import Derived.Test.YtidncnhhjfdifaaSqU
namespace Go.Proofs.Ytidncnhhjfdifaa.Sq
open Go.RowKit
set_option maxRecDepth 4000

/-- nobody follows the greatest operation -/
theorem no_after {o : O} {R : List O} (h3 : ∀ a ∈ R, lt a o) (h2 : ∀ a ∈ o :: R, a.del = false → cmpE a.pr a.el < 0) (hd : o.del = false) : FoR (o :: R) o.el = [] := by
  have hop := h2 o List.mem_cons_self hd
  cases h : FoR (o :: R) o.el with
  | nil => rfl
  | cons a r =>
    obtain ⟨m1, m2, m3⟩ := FoR_mem (show a ∈ FoR (o :: R) o.el by rw [h]; exact List.mem_cons_self)
    have m4 := h2 a m1 m2
    rw [m3] at m4
    rw [cmpE_neg] at m4 hop
    rcases List.mem_cons.1 m1 with rfl | m1
    · omega
    · have m5 := h3 a m1
      unfold lt at m5
      have k1 := kd_ins hd
      have k2 := kd_ins m2
      unfold O.el at m4
      dsimp only at m4
      omega
theorem el_ne {o a : O} (h : lt a o) (h1 : o.del = false) (h2 : a.del = false) : a.el ≠ o.el := by
  unfold lt at h
  have k1 := kd_ins h1
  have k2 := kd_ins h2
  intro e
  unfold O.el at e
  have e1 := congrArg Prod.fst e
  have e2 := congrArg Prod.snd e
  dsimp only at e1 e2
  omega
theorem oc_none {o : O} {R : List O} (h3 : ∀ a ∈ R, lt a o) (hd : o.del = false) (n : Nat) (x : El) : oc o.el (fwN (FoR R) n x) = 0 := by
  unfold oc
  rw [List.countP_eq_zero]
  intro a ha
  obtain ⟨z, hz⟩ := fwN_sub n x a ha
  obtain ⟨m1, m2, m3⟩ := FoR_mem hz
  rw [decide_eq_true_eq]
  exact el_ne (h3 a m1) hd m2
theorem fw_exact : ∀ (R : List O), R.Pairwise (fun p q => lt q p) → (∀ a ∈ R, a.del = false → cmpE a.pr a.el < 0) → (∀ a ∈ R, a.del = false → a.pr ≠ (0, 0) → ∃ b ∈ R, b.del = false ∧ b.el = a.pr) →
    ∀ (rk : El → Nat), (∀ x, ∀ a ∈ FoR R x, rk a.el < rk x) → ∀ n, rk (0, 0) ≤ n →
      (∀ a ∈ R, a.del = false → oc a.el (fwN (FoR R) n (0, 0)) = 1) ∧ (fwN (FoR R) n (0, 0)).length = R.countP (fun a => !a.del)
  | [], _, _, _, _, _, n, _ => by
    rw [fwN_none]
    exact ⟨fun a ha => absurd ha List.not_mem_nil, rfl⟩
  | o :: R, h1, h2, hc, rk, hrk, n, hx => by
    obtain ⟨h3, h4⟩ := List.pairwise_cons.1 h1
    have hsub : ∀ x, ∀ a ∈ FoR R x, a ∈ FoR (o :: R) x := fun x a ha => by
      unfold FoR at ha ⊢
      rw [List.filter_cons]
      split
      · exact List.mem_cons_of_mem _ ha
      · exact ha
    have h2' : ∀ a ∈ R, a.del = false → cmpE a.pr a.el < 0 := fun a ha => h2 a (List.mem_cons_of_mem _ ha)
    have hc' : ∀ a ∈ R, a.del = false → a.pr ≠ (0, 0) → ∃ b ∈ R, b.del = false ∧ b.el = a.pr := fun a ha hd hp => by
      obtain ⟨b, hb, e1, e2⟩ := hc a (List.mem_cons_of_mem _ ha) hd hp
      rcases List.mem_cons.1 hb with rfl | hb
      · have : a ∈ FoR (b :: R) b.el := by
          unfold FoR
          rw [List.mem_filter]
          exact ⟨List.mem_cons_of_mem _ ha, by simp [hd, e2]⟩
        rw [no_after h3 h2 e1] at this
        cases this
      · exact ⟨b, hb, e1, e2⟩
    have ih := fw_exact R h4 h2' hc' rk (fun x a ha => hrk x a (hsub x a ha)) n hx
    have bd := (fw_bound R h4 h2' rk (fun x a ha => hrk x a (hsub x a ha)) n (0, 0) hx).1 (0, 0)
    rw [if_pos rfl] at bd
    cases hd : o.del with
    | true =>
      rw [show FoR (o :: R) = FoR R from funext (FoR_del hd), List.countP_cons]
      refine ⟨fun a ha had => ?_, by simp [hd, ih.2]⟩
      rcases List.mem_cons.1 ha with rfl | ha
      · rw [hd] at had; cases had
      · exact ih.1 a ha had
    | false =>
      have hadd := fwN_add (FoR_ins hd) (no_after h3 h2 hd) rk hrk n (0, 0) hx
      have hfree := oc_none h3 hd n (0, 0)
      have hone : (if ((0, 0) : El) = o.pr then 1 else 0) + oc o.pr (fwN (FoR R) n (0, 0)) = 1 := by
        by_cases e : ((0, 0) : El) = o.pr
        · rw [if_pos e, ← e]; omega
        · rw [if_neg e]
          obtain ⟨b, hb, e1, e2⟩ := hc o List.mem_cons_self hd (fun h => e h.symm)
          have hb' : b ∈ R := by
            rcases List.mem_cons.1 hb with rfl | hb
            · have := h2 b List.mem_cons_self hd
              rw [← e2, cmpE_neg] at this
              omega
            · exact hb
          rw [← e2, ih.1 b hb' e1]
      constructor
      · intro a ha had
        rw [hadd]
        unfold oc at *
        rw [List.countP_append]
        have := oc_ins a.el o (fwN (FoR R) n (0, 0))
        unfold oc at this
        rw [this]
        rcases List.mem_cons.1 ha with rfl | ha
        · rw [hfree, if_pos rfl]
          by_cases e : ((0, 0) : El) = a.pr
          · rw [if_pos e] at hone ⊢
            rw [List.countP_singleton, if_pos (decide_eq_true rfl)]
            omega
          · rw [if_neg e] at hone ⊢
            rw [List.countP_nil]
            omega
        · have hne : o.el ≠ a.el := fun e => el_ne (h3 a ha) hd had e.symm
          rw [if_neg hne, ih.1 a ha had]
          by_cases e : ((0, 0) : El) = o.pr
          · rw [if_pos e]; simp [hne]
          · rw [if_neg e]; simp
      · rw [hadd, List.length_append, len_ins, ih.2, List.countP_cons]
        by_cases e : ((0, 0) : El) = o.pr
        · rw [if_pos e] at hone ⊢
          simp [hd]
          omega
        · rw [if_neg e] at hone ⊢
          simp [hd]
          omega
end Go.Proofs.Ytidncnhhjfdifaa.Sq
