
/-
  Package sequence: plain mathematics of valid sets and of their order.
-/
import Derived.Test.YtidncnhhjfdifaaSqN
namespace Go.Proofs.Ytidncnhhjfdifaa.Sq
open Go.RowKit
set_option maxRecDepth 4000

/-- a valid set -/
structure Val (l : List O) : Prop where
  len : l.length ≤ 60
  ok : ∀ o ∈ l, oC o = 0
  nd : (l.map O.id).Nodup
  has : ∀ o ∈ l, o.nd ≠ (0, 0) → (o.nd, (0 : Int)) ∈ l.map O.id
theorem nodup_iff {α : Type} : ∀ {l : List α}, (∀ (j : Nat) (h : j < l.length), l[j] ∉ l.take j) → l.Nodup := by
  intro l h
  rw [List.nodup_iff_pairwise_ne, List.pairwise_iff_getElem]
  intro i j hi hj hij e
  refine h j hj ?_
  rw [List.mem_take_iff_getElem]
  exact ⟨i, by omega, e⟩
theorem val_of {l : List O} (h : vC l = 0) : Val l := by
  obtain ⟨h1, h2, h3, -⟩ := vC_zero h
  refine ⟨h1, all_ok h, nodup_iff fun j hj hm => ?_, fun o ho hn => ?_⟩
  · have hj' : j < l.length := by simpa using hj
    rw [List.getElem_map, ← List.map_take] at hm
    have := h2 j hj'
    rw [cd_dup hj' (cd_code hj' this) hm] at this
    cases this
  · obtain ⟨i, hi, rfl⟩ := List.getElem_of_mem ho
    have := h3 i hi
    rw [ms_at hi, decide_eq_false_iff_not] at this
    exact Decidable.byContradiction fun hc => this ⟨hn, hc⟩
theorem val_to {l : List O} (h : Val l) : vC l = 0 ∧ vI l = 0 := by
  refine vC_ok (by have := h.len; omega) (fun j hj => cd_ok hj (h.ok _ (List.getElem_mem hj)) fun hm => ?_) (fun j hj => ?_)
  · have hn := h.nd
    rw [List.nodup_iff_pairwise_ne, List.pairwise_iff_getElem] at hn
    rw [List.map_take, List.mem_take_iff_getElem] at hm
    obtain ⟨i, hi, e⟩ := hm
    have hi' : i < j := by simp at hi; omega
    exact hn i j (by simp; omega) (by simpa using hj) hi' (by rw [e, List.getElem_map])
  · rw [ms_at hj, decide_eq_false_iff_not]
    rintro ⟨h1, h2⟩
    exact h2 (h.has _ (List.getElem_mem hj) h1)
theorem val_iff {l : List O} : vC l = 0 ↔ Val l := ⟨val_of, fun h => (val_to h).1⟩
theorem Val.perm {l l' : List O} (h : Val l) (hp : l'.Perm l) : Val l' :=
  ⟨by rw [hp.length_eq]; exact h.len, fun o ho => h.ok o (hp.subset ho), (hp.map O.id).nodup_iff.2 h.nd, fun o ho hn => (hp.map O.id).symm.subset (h.has o (hp.subset ho) hn)⟩
theorem inj_of {α β : Type} {f : α → β} : ∀ {l : List α}, (l.map f).Nodup → ∀ {a b : α}, a ∈ l → b ∈ l → f a = f b → a = b
  | [], _, _, _, h, _, _ => by cases h
  | c :: r, hn, a, b, ha, hb, e => by
    rw [List.map_cons, List.nodup_cons] at hn
    rcases List.mem_cons.1 ha with h1 | h1 <;> rcases List.mem_cons.1 hb with h2 | h2
    · rw [h1, h2]
    · subst h1; exact (hn.1 (e ▸ List.mem_map_of_mem h2)).elim
    · subst h2; exact (hn.1 (e ▸ List.mem_map_of_mem h1)).elim
    · exact inj_of hn.2 h1 h2 e
theorem id_of {p q : O} (h1 : ¬ lt p q) (h2 : ¬ lt q p) : p.id = q.id := by
  unfold lt at h1 h2
  have e1 : p.cnt = q.cnt := by omega
  have e2 : p.rep = q.rep := by omega
  have e3 : p.kd = q.kd := by omega
  unfold O.id O.el
  rw [e1, e2, e3]
theorem srt_uniq : ∀ {S S' : List O}, S.Perm S' → Srt S → Srt S' → (S.map O.id).Nodup → S = S'
  | [], S', hp, _, _, _ => (List.Perm.nil_eq hp)
  | a :: r, [], hp, _, _, _ => by have := hp.length_eq; simp at this
  | a :: r, b :: r', hp, h1, h2, hn => by
    have hab : a = b := by
      rcases List.mem_cons.1 (hp.subset List.mem_cons_self) with e | ha
      · exact e
      · rcases List.mem_cons.1 (hp.symm.subset List.mem_cons_self) with e | hb
        · exact e.symm
        · have n1 : ¬ lt b a := (List.pairwise_cons.1 h1).1 b hb
          have n2 : ¬ lt a b := (List.pairwise_cons.1 h2).1 a ha
          exact inj_of hn List.mem_cons_self (List.mem_cons_of_mem _ hb) (id_of n2 n1)
    subst hab
    rw [List.map_cons, List.nodup_cons] at hn
    rw [srt_uniq (List.Perm.cons_inv hp) (List.pairwise_cons.1 h1).2 (List.pairwise_cons.1 h2).2 hn.2]
/-- the operations behind an element -/
def fwN (F : El → List O) : Nat → El → List O
  | 0, _ => []
  | n + 1, x => (F x).flatMap fun o => o :: fwN F n o.el
theorem fwV_eq (D : El → Bool) (F : El → List O) : ∀ n x, fwV D F n x = (fwN F n x).flatMap fun o => if D o.el then [] else [o.line]
  | 0, _ => rfl
  | n + 1, x => by
    unfold fwV fwN
    rw [List.flatMap_assoc]
    congr 1
    funext o
    rw [List.flatMap_cons, fwV_eq D F n o.el]
theorem fm_congr {α β : Type} {f g : α → List β} : ∀ {l : List α}, (∀ a ∈ l, f a = g a) → l.flatMap f = l.flatMap g
  | [], _ => rfl
  | a :: r, h => by rw [List.flatMap_cons, List.flatMap_cons, h a List.mem_cons_self, fm_congr (fun b hb => h b (List.mem_cons_of_mem _ hb))]
theorem fwN_add {F F' : El → List O} {o : O} (hF : ∀ x, F x = if x = o.pr then o :: F' x else F' x) (hno : F o.el = []) (rk : El → Nat) (hrk : ∀ x, ∀ a ∈ F x, rk a.el < rk x) :
    ∀ n x, rk x ≤ n → fwN F n x = (if x = o.pr then [o] else []) ++ (fwN F' n x).flatMap fun a => if a.el = o.pr then [a, o] else [a] := by
  have hnil : ∀ n, fwN F n o.el = [] := fun n => by cases n with | zero => rfl | succ n => unfold fwN; rw [hno]; rfl
  intro n
  induction n with
  | zero =>
    intro x hx
    have hnx : x ≠ o.pr := fun e => by
      have h := hF x
      rw [if_pos e] at h
      have := hrk x o (by rw [h]; exact List.mem_cons_self)
      omega
    rw [if_neg hnx]
    rfl
  | succ n ih =>
    intro x hx
    have hrec : ∀ a ∈ F' x, a :: fwN F n a.el = ([a] ++ fwN F' n a.el).flatMap fun a => if a.el = o.pr then [a, o] else [a] := fun a ha => by
      have hm : a ∈ F x := by rw [hF x]; split; exact List.mem_cons_of_mem _ ha; exact ha
      rw [ih a.el (by have := hrk x a hm; omega), List.flatMap_append, List.flatMap_singleton]
      by_cases e : a.el = o.pr
      · rw [if_pos e, if_pos e]; simp
      · rw [if_neg e, if_neg e]; simp
    have hmap : (F' x).flatMap (fun a => a :: fwN F n a.el) = (fwN F' (n + 1) x).flatMap fun a => if a.el = o.pr then [a, o] else [a] := by
      show _ = ((F' x).flatMap fun a => a :: fwN F' n a.el).flatMap _
      rw [List.flatMap_assoc]
      exact fm_congr hrec
    show (F x).flatMap (fun a => a :: fwN F n a.el) = _
    rw [← hmap, hF x]
    by_cases e : x = o.pr
    · rw [if_pos e, if_pos e, List.flatMap_cons, hnil n]
    · rw [if_neg e, if_neg e]; rfl
theorem fwN_sub {F : El → List O} : ∀ n x a, a ∈ fwN F n x → ∃ y, a ∈ F y
  | 0, _, _, h => by cases h
  | n + 1, x, a, h => by
    unfold fwN at h
    obtain ⟨b, hb, hm⟩ := List.mem_flatMap.1 h
    rcases List.mem_cons.1 hm with rfl | hm
    · exact ⟨x, hb⟩
    · exact fwN_sub n _ a hm
/-- how often an element occurs -/
def oc (y : El) (l : List O) : Nat := l.countP fun a => decide (a.el = y)
theorem oc_ins (y : El) (o : O) : ∀ l : List O, oc y (l.flatMap fun a => if a.el = o.pr then [a, o] else [a]) = oc y l + if o.el = y then oc o.pr l else 0
  | [] => by simp [oc]
  | a :: r => by
    have ih := oc_ins y o r
    unfold oc at *
    rw [List.flatMap_cons, List.countP_append, ih, List.countP_cons, List.countP_cons]
    by_cases e : a.el = o.pr
    · rw [if_pos e]
      simp only [List.countP_cons, List.countP_nil, decide_eq_true_eq, Nat.zero_add, if_pos e]
      repeat' split
      all_goals omega
    · rw [if_neg e]
      simp only [List.countP_cons, List.countP_nil, decide_eq_true_eq, Nat.zero_add, if_neg e]
      repeat' split
      all_goals omega
theorem len_ins (o : O) : ∀ l : List O, (l.flatMap fun a => if a.el = o.pr then [a, o] else [a]).length = l.length + oc o.pr l
  | [] => by simp [oc]
  | a :: r => by
    have ih := len_ins o r
    unfold oc at *
    rw [List.flatMap_cons, List.length_append, ih, List.countP_cons]
    by_cases e : a.el = o.pr <;> simp [e] <;> omega
/-- the followers, out of a row from the greatest to the smallest -/
def FoR (R : List O) (x : El) : List O := R.filter fun o => !o.del && decide (o.pr = x)
theorem Fo_eq (S : List O) (x : El) : Fo S x = FoR S.reverse x := by
  unfold Fo fls Qk FoR
  rw [List.take_of_length_le (by simp)]
theorem FoR_mem {R : List O} {x : El} {a : O} (h : a ∈ FoR R x) : a ∈ R ∧ a.del = false ∧ a.pr = x := by
  unfold FoR at h
  rw [List.mem_filter] at h
  obtain ⟨h1, h2⟩ := h
  simp at h2
  exact ⟨h1, h2.1, h2.2⟩
theorem FoR_del {R : List O} {o : O} (hd : o.del = true) (x : El) : FoR (o :: R) x = FoR R x := by unfold FoR; rw [List.filter_cons]; simp [hd]
theorem FoR_ins {R : List O} {o : O} (hd : o.del = false) (x : El) : FoR (o :: R) x = if x = o.pr then o :: FoR R x else FoR R x := by
  unfold FoR
  rw [List.filter_cons]
  by_cases e : x = o.pr
  · rw [if_pos e, if_pos (by simp [hd, e])]
  · rw [if_neg e, if_neg (by simp [hd]; exact fun h => e h.symm)]
theorem fwN_none : ∀ n x, fwN (FoR []) n x = []
  | 0, _ => rfl
  | _ + 1, _ => rfl
theorem kd_ins {o : O} (h : o.del = false) : o.kd = 0 := by unfold O.kd; rw [h]; rfl
theorem fw_bound : ∀ (R : List O), R.Pairwise (fun p q => lt q p) → (∀ a ∈ R, a.del = false → cmpE a.pr a.el < 0) → ∀ (rk : El → Nat), (∀ x, ∀ a ∈ FoR R x, rk a.el < rk x) →
    ∀ n x, rk x ≤ n → (∀ y, (if x = y then 1 else 0) + oc y (fwN (FoR R) n x) ≤ 1) ∧ (fwN (FoR R) n x).length ≤ R.length
  | [], _, _, _, _, n, x, _ => by
    rw [fwN_none]
    refine ⟨fun y => ?_, Nat.le_refl _⟩
    unfold oc
    split <;> simp
  | o :: R, h1, h2, rk, hrk, n, x, hx => by
    obtain ⟨h3, h4⟩ := List.pairwise_cons.1 h1
    have hsub : ∀ x, ∀ a ∈ FoR R x, a ∈ FoR (o :: R) x := fun x a ha => by
      unfold FoR at ha ⊢
      rw [List.filter_cons]
      split
      · exact List.mem_cons_of_mem _ ha
      · exact ha
    have ih := fw_bound R h4 (fun a ha => h2 a (List.mem_cons_of_mem _ ha)) rk (fun x a ha => hrk x a (hsub x a ha)) n x hx
    cases hd : o.del with
    | true =>
      rw [show FoR (o :: R) = FoR R from funext (FoR_del hd)]
      exact ⟨ih.1, Nat.le_succ_of_le ih.2⟩
    | false =>
      have hop := h2 o List.mem_cons_self hd
      have hno : FoR (o :: R) o.el = [] := by
        cases h : FoR (o :: R) o.el with
        | nil => rfl
        | cons a r =>
          obtain ⟨m1, m2, m3⟩ := FoR_mem (show a ∈ FoR (o :: R) o.el by rw [h]; exact List.mem_cons_self)
          have m4 := h2 a m1 m2
          rw [m3] at m4
          rw [cmpE_neg] at m4 hop
          rcases List.mem_cons.1 m1 with rfl | m1
          · omega
          · have m5 := h3 a m1
            unfold lt at m5
            have k1 := kd_ins hd
            have k2 := kd_ins m2
            unfold O.el at m4
            dsimp only at m4
            omega
      have hadd := fwN_add (FoR_ins hd) hno rk hrk n x hx
      have hfree : oc o.el (fwN (FoR R) n x) = 0 := by
        unfold oc
        rw [List.countP_eq_zero]
        intro a ha
        obtain ⟨z, hz⟩ := fwN_sub n x a ha
        obtain ⟨m1, m2, m3⟩ := FoR_mem hz
        have m5 := h3 a m1
        unfold lt at m5
        have k1 := kd_ins hd
        have k2 := kd_ins m2
        rw [decide_eq_true_eq]
        intro e
        unfold O.el at e
        have e1 := congrArg Prod.fst e
        have e2 := congrArg Prod.snd e
        dsimp only at e1 e2
        omega
      constructor
      · intro y
        by_cases hxy : x = o.el
        · rw [show fwN (FoR (o :: R)) n x = [] by cases n with | zero => rfl | succ n => unfold fwN; rw [hxy, hno]; rfl]
          unfold oc
          split <;> simp
        · have ey := ih.1 y
          have ep := ih.1 o.pr
          rw [hadd]
          unfold oc at *
          rw [List.countP_append]
          have := oc_ins y o (fwN (FoR R) n x)
          unfold oc at this
          rw [this]
          by_cases hy : o.el = y
          · rw [if_pos hy]
            subst hy
            rw [hfree, if_neg hxy]
            by_cases e : x = o.pr
            · rw [if_pos e] at ep ⊢
              simp
              omega
            · rw [if_neg e] at ep ⊢
              simp
              omega
          · rw [if_neg hy]
            by_cases e : x = o.pr
            · rw [if_pos e]
              simp [hy]
              exact ey
            · rw [if_neg e]
              simpa using ey
      · have ep := ih.1 o.pr
        have := len_ins o (fwN (FoR R) n x)
        rw [hadd, List.length_append, this, List.length_cons]
        by_cases e : x = o.pr
        · rw [if_pos e] at ep ⊢
          simp
          omega
        · rw [if_neg e] at ep ⊢
          simp
          omega
instance (p q : O) : Decidable (lt p q) := by unfold lt; exact inferInstance
theorem strict {l S : List O} (h : Val l) (hp : S.Perm l) (hs : Srt S) : S.reverse.Pairwise (fun p q => lt q p) := by
  rw [List.pairwise_reverse]
  have hn := ((hp.map O.id).nodup_iff).2 h.nd
  rw [List.nodup_iff_pairwise_ne, List.pairwise_map] at hn
  refine (List.Pairwise.and hs hn).imp ?_
  rintro a b ⟨h1, h2⟩
  exact Decidable.byContradiction fun hc => h2 (id_of hc h1)
theorem vw_len {l S : List O} (h : Val l) (hp : S.Perm l) (hs : Srt S) : (vw S).length ≤ 60 := by
  have ok : ∀ o ∈ S, oC o = 0 := fun o ho => h.ok o (hp.subset ho)
  have e : Fo S = FoR S.reverse := funext (Fo_eq S)
  have b := (fw_bound S.reverse (strict h hp hs) (fun a ha hd => pr_lt (ok a (List.mem_reverse.1 ha)) hd) (rk S) (fun x a ha => rk_lt ok x a (by rw [e]; exact ha)) (rk S (0, 0)) (0, 0) (Nat.le_refl _)).2
  unfold vw
  rw [fwV_eq, e]
  have hl : ∀ l : List O, (l.flatMap fun o => if De S o.el then [] else [o.line]).length ≤ l.length := fun l => by
    induction l with
    | nil => exact Nat.le_refl _
    | cons a r ih =>
      rw [List.flatMap_cons, List.length_append, List.length_cons]
      split
      · rw [List.length_nil]; omega
      · rw [List.length_singleton]; omega
  have := hl (fwN (FoR S.reverse) (rk S (0, 0)) (0, 0))
  have h60 := h.len
  rw [← hp.length_eq] at h60
  rw [List.length_reverse] at b
  omega
/-- the sorted row of a valid set is one -/
theorem one_row {l l' S S' : List O} (h : Val l) (hl : l'.Perm l) (hp : S.Perm l) (hs : Srt S) (hp' : S'.Perm l') (hs' : Srt S') : S' = S :=
  srt_uniq ((hp'.trans hl).trans hp.symm) hs' hs (((hp'.trans hl).map O.id).nodup_iff.2 h.nd)
end Go.Proofs.Ytidncnhhjfdifaa.Sq
