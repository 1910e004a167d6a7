
/-
  Plain mathematics of sequence: one more operation leaves the other lines in their order.
-/
import Derived.Test.YtidncnhhjfdifaaSqW
namespace Go.Proofs.Ytidncnhhjfdifaa.Sq
open Go.RowKit
set_option maxRecDepth 4000

theorem fm_sub {α β : Type} {f g : α → List β} (h : ∀ a, (f a).Sublist (g a)) : ∀ {l m : List α}, l.Sublist m → (l.flatMap f).Sublist (m.flatMap g) := by
  intro l m hs
  induction hs with
  | slnil => exact List.Sublist.refl _
  | cons a _ ih => rw [List.flatMap_cons]; exact ih.trans (List.sublist_append_right _ _)
  | cons_cons a _ ih => rw [List.flatMap_cons, List.flatMap_cons]; exact (h a).append ih
theorem fwV_sub {D D' : El → Bool} {F F' : El → List O} (hD : ∀ x, D x = true → D' x = true) (hF : ∀ x, (F' x).Sublist (F x)) : ∀ n' n x, n' ≤ n → (fwV D' F' n' x).Sublist (fwV D F n x)
  | 0, _, _, _ => List.nil_sublist _
  | n' + 1, 0, _, h => by omega
  | n' + 1, n + 1, x, h => by
    unfold fwV
    refine fm_sub (fun a => ?_) (hF x)
    refine List.Sublist.append ?_ (fwV_sub hD hF n' n a.el (by omega))
    cases e : D a.el with
    | true => rw [hD _ e]; exact List.Sublist.refl _
    | false =>
      split
      · exact List.nil_sublist _
      · rw [if_neg (by decide)]; exact List.Sublist.refl _
theorem fwV_fuel {D : El → Bool} {F : El → List O} (rk : El → Nat) (hrk : ∀ x, ∀ a ∈ F x, rk a.el < rk x) : ∀ n n' x, rk x ≤ n → rk x ≤ n' → fwV D F n x = fwV D F n' x := by
  have hnil : ∀ x, rk x = 0 → F x = [] := fun x h => by
    cases e : F x with
    | nil => rfl
    | cons a r => have := hrk x a (by rw [e]; exact List.mem_cons_self); omega
  intro n
  induction n with
  | zero =>
    intro n' x h1 h2
    cases n' with
    | zero => rfl
    | succ n' => unfold fwV; rw [hnil x (by omega)]; rfl
  | succ n ih =>
    intro n' x h1 h2
    cases n' with
    | zero => unfold fwV; rw [hnil x (by omega)]; rfl
    | succ n' =>
      unfold fwV
      refine fm_congr fun a ha => ?_
      have := hrk x a ha
      rw [ih n' a.el (by omega) (by omega)]
/-- the sorted row with one more operation -/
theorem one_more {l S S' : List O} {o : O} (h' : Val (l ++ [o])) (hp : S.Perm l) (hs : Srt S) (hp' : S'.Perm (l ++ [o])) (hs' : Srt S') : ∃ s t, S = s ++ t ∧ S' = s ++ o :: t := by
  obtain ⟨s, t, e⟩ := List.append_of_mem (hp'.symm.subset (List.mem_append_right l (List.mem_singleton.2 rfl)))
  refine ⟨s, t, ?_, e⟩
  have hsub : (s ++ t).Sublist S' := by rw [e]; exact (List.Sublist.refl s).append (List.sublist_cons_self o t)
  have hperm : (s ++ t).Perm l := by
    have h1 : (o :: (s ++ t)).Perm (o :: l) := by
      have h2 : (o :: (s ++ t)).Perm S' := by rw [e]; exact List.perm_middle.symm
      exact (h2.trans hp').trans (List.perm_append_comm (l₁ := l) (l₂ := [o]))
    exact List.Perm.cons_inv h1
  have hn : (l.map O.id).Nodup := by
    have := h'.nd
    rw [List.map_append, List.nodup_append] at this
    exact this.1
  exact srt_uniq (hp.trans hperm.symm) hs (List.Pairwise.sublist hsub hs') (((hp.map O.id).nodup_iff).2 hn)
theorem De_iff {S : List O} {x : El} : De S x = true ↔ ∃ a ∈ S, a.del = true ∧ a.el = x := by
  unfold De dls Qk
  rw [List.take_of_length_le (by simp), decide_eq_true_eq, List.mem_map]
  constructor
  · rintro ⟨a, ha, rfl⟩
    obtain ⟨h1, h2⟩ := List.mem_filter.1 ha
    exact ⟨a, List.mem_reverse.1 h1, h2, rfl⟩
  · rintro ⟨a, ha, h2, rfl⟩
    exact ⟨a, List.mem_filter.2 ⟨List.mem_reverse.2 ha, h2⟩, rfl⟩
theorem vL_ins_sub {l : List O} {o : O} (h : Val l) (h' : Val (l ++ [o])) (hd : o.del = false) : (vL l).Sublist (vL (l ++ [o])) := by
  rw [vL_at h (srt_perm l) (srt_srt l), vL_at h' (srt_perm _) (srt_srt _)]
  obtain ⟨s, t, e1, e2⟩ := one_more h' (srt_perm l) (srt_srt l) (srt_perm (l ++ [o])) (srt_srt _)
  have hsub : (srt l).Sublist (srt (l ++ [o])) := by rw [e1, e2]; exact (List.Sublist.refl s).append (List.sublist_cons_self o t)
  unfold vw
  refine fwV_sub (fun x hx => ?_) (fun x => ?_) _ _ _ (by unfold rk; exact hsub.countP_le)
  · obtain ⟨a, ha, ha1, ha2⟩ := De_iff.1 hx
    refine De_iff.2 ⟨a, ?_, ha1, ha2⟩
    rw [e2] at ha
    rw [e1]
    rcases List.mem_append.1 ha with ha | ha
    · exact List.mem_append_left _ ha
    · rcases List.mem_cons.1 ha with rfl | ha
      · rw [hd] at ha1; cases ha1
      · exact List.mem_append_right _ ha
  · rw [Fo_eq, Fo_eq]
    exact hsub.reverse.filter _
theorem vL_del_sub {l : List O} {o : O} (h : Val l) (h' : Val (l ++ [o])) (hd : o.del = true) : (vL (l ++ [o])).Sublist (vL l) := by
  rw [vL_at h (srt_perm l) (srt_srt l), vL_at h' (srt_perm _) (srt_srt _)]
  obtain ⟨s, t, e1, e2⟩ := one_more h' (srt_perm l) (srt_srt l) (srt_perm (l ++ [o])) (srt_srt _)
  have hsub : (srt l).Sublist (srt (l ++ [o])) := by rw [e1, e2]; exact (List.Sublist.refl s).append (List.sublist_cons_self o t)
  have hF : Fo (srt (l ++ [o])) = Fo (srt l) := funext fun x => by
    rw [Fo_eq, Fo_eq, e1, e2]
    unfold FoR
    simp [List.filter_append, hd]
  have ok : ∀ a ∈ srt l, oC a = 0 := fun a ha => h.ok a ((srt_perm l).subset ha)
  have hle : rk (srt l) (0, 0) ≤ rk (srt (l ++ [o])) (0, 0) := by unfold rk; exact hsub.countP_le
  unfold vw
  rw [hF, fwV_fuel (D := De (srt (l ++ [o]))) (rk (srt l)) (fun x a ha => rk_lt ok x a ha) (rk (srt (l ++ [o])) (0, 0)) (rk (srt l) (0, 0)) (0, 0) hle (Nat.le_refl _)]
  refine fwV_sub (fun x hx => ?_) (fun x => List.Sublist.refl _) _ _ _ (Nat.le_refl _)
  obtain ⟨a, ha, ha1, ha2⟩ := De_iff.1 hx
  exact De_iff.2 ⟨a, hsub.subset ha, ha1, ha2⟩
/-- nobody has deleted what is inserted anew -/
theorem fresh_ins {l : List O} {o : O} (h : Val l) (h' : Val (l ++ [o])) (hd : o.del = false) : ∀ a ∈ l, a.del = true → a.el ≠ o.el := by
  intro a ha had e
  have e0 : a.nd = a.el := by unfold O.nd; rw [had]; rfl
  obtain ⟨b, hb, h1, h2⟩ := h.ins ha (by rw [e0]; exact el_far (h.ok a ha))
  have hn := h'.nd
  rw [List.map_append, List.nodup_append] at hn
  refine hn.2.2 b.id (List.mem_map_of_mem hb) o.id (by simp) ?_
  unfold O.id
  rw [h2, e0, e, kd_ins h1, kd_ins hd]
end Go.Proofs.Ytidncnhhjfdifaa.Sq
