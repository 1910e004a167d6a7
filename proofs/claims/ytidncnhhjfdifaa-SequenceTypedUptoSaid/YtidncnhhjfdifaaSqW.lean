
/-
  Plain mathematics of sequence: how many lines a valid set shows.
-/
import Derived.Test.YtidncnhhjfdifaaSqV
namespace Go.Proofs.Ytidncnhhjfdifaa.Sq
open Go.RowKit
set_option maxRecDepth 4000

theorem cnt_cons {d : El} {D : List El} (hd : d ∉ D) : ∀ T : List O, T.countP (fun a => decide (a.el ∈ d :: D)) = oc d T + T.countP (fun a => decide (a.el ∈ D))
  | [] => rfl
  | a :: T => by
    have ih := cnt_cons hd T
    unfold oc at *
    rw [List.countP_cons, List.countP_cons, List.countP_cons, ih]
    by_cases e : a.el = d
    · rw [if_pos (decide_eq_true (by rw [e]; exact List.mem_cons_self)), if_pos (decide_eq_true e), if_neg (by rw [decide_eq_true_eq, e]; exact hd)]
      omega
    · by_cases e2 : a.el ∈ D
      · rw [if_pos (decide_eq_true (List.mem_cons_of_mem _ e2)), if_neg (by rw [decide_eq_true_eq]; exact e), if_pos (decide_eq_true e2)]
        omega
      · rw [if_neg (by rw [decide_eq_true_eq]; intro h; rcases List.mem_cons.1 h with h | h; exact e h; exact e2 h), if_neg (by rw [decide_eq_true_eq]; exact e), if_neg (by rw [decide_eq_true_eq]; exact e2)]
        omega
theorem cnt_in : ∀ (D : List El) (T : List O), D.Nodup → (∀ d ∈ D, oc d T = 1) → T.countP (fun a => decide (a.el ∈ D)) = D.length
  | [], T, _, _ => by
    rw [List.length_nil, List.countP_eq_zero]
    intro a _
    simp
  | d :: D, T, hn, h1 => by
    obtain ⟨n1, n2⟩ := List.nodup_cons.1 hn
    rw [cnt_cons n1, h1 d List.mem_cons_self, cnt_in D T n2 (fun x hx => h1 x (List.mem_cons_of_mem _ hx)), List.length_cons]
    omega
theorem fm_len (D : El → Bool) : ∀ T : List O, (T.flatMap fun o => if D o.el then [] else [o.line]).length + T.countP (fun o => D o.el) = T.length
  | [] => rfl
  | a :: T => by
    have ih := fm_len D T
    rw [List.flatMap_cons, List.length_append, List.countP_cons, List.length_cons]
    cases e : D a.el with
    | true => rw [if_pos rfl, if_pos rfl, List.length_nil]; omega
    | false => rw [if_neg (by decide), if_neg (by decide), List.length_singleton]; omega
theorem kd_del {o : O} (h : o.del = true) : o.kd = 1 := by unfold O.kd; rw [h]; rfl
theorem del_of_kd {o : O} (h : o.kd = 0) : o.del = false := by
  cases e : o.del with
  | false => rfl
  | true => rw [kd_del e] at h; omega
/-- what an operation of a valid set needs is inserted there -/
theorem Val.ins {l : List O} (h : Val l) {o : O} (ho : o ∈ l) (hn : o.nd ≠ (0, 0)) : ∃ b ∈ l, b.del = false ∧ b.el = o.nd := by
  obtain ⟨b, hb, e⟩ := List.mem_map.1 (h.has o ho hn)
  unfold O.id at e
  exact ⟨b, hb, del_of_kd (congrArg Prod.snd e), congrArg Prod.fst e⟩
theorem el_far {o : O} (h : oC o = 0) : o.el ≠ (0, 0) := by
  have := oC_in h
  unfold inR at this
  simp only [Bool.and_eq_true, decide_eq_true_eq] at this
  intro e
  rw [e] at this
  have := this.1.1.1
  omega
theorem dels_nodup {R : List O} (h : (R.map O.id).Nodup) : ((R.filter (·.del)).map O.el).Nodup := by
  rw [List.nodup_iff_pairwise_ne, List.pairwise_map] at h ⊢
  rw [List.pairwise_filter]
  refine h.imp fun {a b} hab ha hb e => hab ?_
  unfold O.id
  rw [e, kd_del ha, kd_del hb]
theorem vw_exact {l S : List O} (h : Val l) (hp : S.Perm l) (hs : Srt S) : (vw S).length + l.countP (·.del) = l.countP (fun a => !a.del) := by
  have hS : Val S := h.perm hp
  have ok : ∀ o ∈ S, oC o = 0 := hS.ok
  have e : Fo S = FoR S.reverse := funext (Fo_eq S)
  have hR : ∀ a ∈ S.reverse, a ∈ S := fun a ha => List.mem_reverse.1 ha
  have ex := fw_exact S.reverse (strict h hp hs) (fun a ha hd => pr_lt (ok a (hR a ha)) hd) (fun a ha hd hn => by
      have e0 : a.nd = a.pr := by unfold O.nd; rw [hd]; rfl
      obtain ⟨b, hb, h1, h2⟩ := hS.ins (hR a ha) (by rw [e0]; exact hn)
      exact ⟨b, List.mem_reverse.2 hb, h1, h2.trans e0⟩) (rk S) (fun x a ha => rk_lt ok x a (by rw [e]; exact ha)) (rk S (0, 0)) (Nat.le_refl _)
  have hD : dls S S.length = (S.reverse.filter (·.del)).map O.el := by unfold dls Qk; rw [List.take_of_length_le (by simp)]
  have hnd : (dls S S.length).Nodup := by
    rw [hD]
    refine dels_nodup ?_
    rw [List.map_reverse, List.nodup_iff_pairwise_ne, List.pairwise_reverse]
    have := hS.nd
    rw [List.nodup_iff_pairwise_ne] at this
    exact this.imp fun h e => h e.symm
  have hone : ∀ d ∈ dls S S.length, oc d (fwN (FoR S.reverse) (rk S (0, 0)) (0, 0)) = 1 := fun d hd => by
    rw [hD] at hd
    obtain ⟨a, ha, rfl⟩ := List.mem_map.1 hd
    obtain ⟨ha1, ha2⟩ := List.mem_filter.1 ha
    have e0 : a.nd = a.el := by unfold O.nd; rw [ha2]; rfl
    obtain ⟨b, hb, h1, h2⟩ := hS.ins (hR a ha1) (by rw [e0]; exact el_far (ok a (hR a ha1)))
    rw [← e0, ← h2]
    exact ex.1 b (List.mem_reverse.2 hb) h1
  have hc := cnt_in _ _ hnd hone
  have hf := fm_len (De S) (fwN (FoR S.reverse) (rk S (0, 0)) (0, 0))
  have hlen : (dls S S.length).length = l.countP (·.del) := by
    rw [hD, List.length_map, ← List.countP_eq_length_filter, (S.reverse_perm.trans hp).countP_eq]
  have hins : (fwN (FoR S.reverse) (rk S (0, 0)) (0, 0)).length = l.countP (fun a => !a.del) := by
    rw [ex.2, (S.reverse_perm.trans hp).countP_eq]
  unfold vw
  rw [fwV_eq, e, ← hins, ← hf, ← hlen, ← hc]
  rfl
/-- how many lines Visible shows of a valid set -/
theorem vL_exact {l : List O} (h : Val l) : (vL l).length + l.countP (·.del) = l.countP (fun a => !a.del) := by
  rw [vL_at h (srt_perm l) (srt_srt l)]
  exact vw_exact h (srt_perm l) (srt_srt l)
/-- one more insertion shows one line more -/
theorem vL_ins {l : List O} {o : O} (h : Val l) (h' : Val (l ++ [o])) (hd : o.del = false) : (vL (l ++ [o])).length = (vL l).length + 1 := by
  have e1 := vL_exact h
  have e2 := vL_exact h'
  rw [List.countP_append, List.countP_append, List.countP_singleton, List.countP_singleton, hd] at e2
  simp at e2
  omega
/-- one more deletion shows one line less -/
theorem vL_del {l : List O} {o : O} (h : Val l) (h' : Val (l ++ [o])) (hd : o.del = true) : (vL l).length = (vL (l ++ [o])).length + 1 := by
  have e1 := vL_exact h
  have e2 := vL_exact h'
  rw [List.countP_append, List.countP_append, List.countP_singleton, List.countP_singleton, hd] at e2
  simp at e2
  omega
end Go.Proofs.Ytidncnhhjfdifaa.Sq
