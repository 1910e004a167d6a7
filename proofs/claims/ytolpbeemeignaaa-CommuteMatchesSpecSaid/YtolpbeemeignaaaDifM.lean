/-
  Plain mathematics of longest common subsequences, alignments and scripts (no program here).
-/
import Derived.Below
namespace Go.Proofs.Ytolpbeemeignaaa.Dif

theorem sub_tail {α : Type} {z x : α} {l a : List α} (h : (z :: l).Sublist (x :: a)) : l.Sublist a := by
  cases h with
  | cons _ h => exact (List.sublist_cons_self z l).trans h
  | cons_cons _ h => exact h
theorem sub_drop {α : Type} {x y : α} {l b : List α} (h : (x :: l).Sublist (y :: b)) (hne : x ≠ y) : (x :: l).Sublist b := by
  cases h with
  | cons _ h => exact h
  | cons_cons _ h => exact (hne rfl).elim

variable {α : Type} [DecidableEq α]

/-- the length of the longest common subsequence -/
def lcs : List α → List α → Nat
  | [], _ => 0
  | _ :: _, [] => 0
  | x :: a, y :: b => if x = y then lcs a b + 1 else max (lcs a (y :: b)) (lcs (x :: a) b)
termination_by a b => a.length + b.length

theorem lcs_nil (b : List α) : lcs [] b = 0 := by rw [lcs]
theorem lcs_nil' (a : List α) : lcs a [] = 0 := by cases a <;> rw [lcs]
theorem lcs_same (x : α) (a b : List α) : lcs (x :: a) (x :: b) = lcs a b + 1 := by rw [lcs, if_pos rfl]
theorem lcs_other {x y : α} (h : x ≠ y) (a b : List α) : lcs (x :: a) (y :: b) = max (lcs a (y :: b)) (lcs (x :: a) b) := by rw [lcs, if_neg h]

/-- no common subsequence is longer -/
theorem lcs_max (a b : List α) : ∀ l : List α, l.Sublist a → l.Sublist b → l.length ≤ lcs a b := by
  match a, b with
  | [], b => intro l h _; rw [List.sublist_nil.1 h]; simp
  | x :: a, [] => intro l _ h; rw [List.sublist_nil.1 h]; simp
  | x :: a, y :: b =>
    intro l h1 h2
    by_cases e : x = y
    · subst e
      rw [lcs_same]
      cases l with
      | nil => simp
      | cons z l =>
        have := lcs_max a b l (sub_tail h1) (sub_tail h2)
        simp; omega
    · rw [lcs_other e]
      cases h1 with
      | cons _ h1 =>
        have := lcs_max a (y :: b) l h1 h2
        omega
      | cons_cons _ h1 =>
        have := lcs_max (x :: a) b _ (h1.cons_cons x) (sub_drop h2 e)
        omega
termination_by a.length + b.length

/-- there is one of that length -/
theorem lcs_has (a b : List α) : ∃ l : List α, l.Sublist a ∧ l.Sublist b ∧ l.length = lcs a b := by
  match a, b with
  | [], b => exact ⟨[], List.Sublist.refl _, List.nil_sublist _, by rw [lcs_nil]; rfl⟩
  | x :: a, [] => exact ⟨[], List.nil_sublist _, List.Sublist.refl _, by rw [lcs_nil']; rfl⟩
  | x :: a, y :: b =>
    by_cases e : x = y
    · subst e
      obtain ⟨l, h1, h2, h3⟩ := lcs_has a b
      exact ⟨x :: l, h1.cons_cons x, h2.cons_cons x, by rw [lcs_same, ← h3]; rfl⟩
    · rw [lcs_other e]
      rcases Nat.le_total (lcs a (y :: b)) (lcs (x :: a) b) with h | h
      · obtain ⟨l, h1, h2, h3⟩ := lcs_has (x :: a) b
        exact ⟨l, h1, h2.cons y, by rw [h3]; omega⟩
      · obtain ⟨l, h1, h2, h3⟩ := lcs_has a (y :: b)
        exact ⟨l, h1.cons x, h2, by rw [h3]; omega⟩
termination_by a.length + b.length

theorem lcs_comm (a b : List α) : lcs a b = lcs b a := by
  obtain ⟨l, h1, h2, h3⟩ := lcs_has a b
  obtain ⟨m, k1, k2, k3⟩ := lcs_has b a
  have := lcs_max b a l h2 h1
  have := lcs_max a b m k2 k1
  omega
theorem lcs_le (a b : List α) : lcs a b ≤ a.length ∧ lcs a b ≤ b.length := by
  obtain ⟨l, h1, h2, h3⟩ := lcs_has a b
  exact ⟨h3 ▸ h1.length_le, h3 ▸ h2.length_le⟩
theorem lcs_mono (x : α) (a b : List α) : lcs a b ≤ lcs (x :: a) b := by
  obtain ⟨l, h1, h2, h3⟩ := lcs_has a b
  rw [← h3]; exact lcs_max _ _ l (h1.cons x) h2
theorem lcs_mono' (y : α) (a b : List α) : lcs a b ≤ lcs a (y :: b) := by
  rw [lcs_comm, lcs_comm a]; exact lcs_mono y b a
theorem lcs_one (x : α) (a b : List α) : lcs (x :: a) b ≤ lcs a b + 1 := by
  obtain ⟨l, h1, h2, h3⟩ := lcs_has (x :: a) b
  rw [← h3]
  cases l with
  | nil => simp
  | cons z l =>
    have := lcs_max a b l (sub_tail h1) ((List.sublist_cons_self z l).trans h2)
    simp; omega
theorem lcs_one' (y : α) (a b : List α) : lcs a (y :: b) ≤ lcs a b + 1 := by
  rw [lcs_comm, lcs_comm a]; exact lcs_one y b a
/-- the table's step, as a reader may write it -/
theorem lcs_table (x y : α) (a b : List α) : lcs (x :: a) (y :: b) = max (max (lcs (x :: a) b) (lcs a (y :: b))) (if x = y then lcs a b + 1 else 0) := by
  by_cases e : x = y
  · subst e
    have h1 := lcs_one x a b
    have h2 := lcs_one' x a b
    rw [lcs_same, if_pos rfl]; omega
  · rw [lcs_other e, if_neg e]; omega
theorem lcs_self (a : List α) : lcs a a = a.length := by
  have h := lcs_max a a a (List.Sublist.refl _) (List.Sublist.refl _)
  have := (lcs_le a a).1
  omega
theorem lcs_full {a b : List α} (h1 : lcs a b = a.length) (h2 : lcs a b = b.length) : a = b := by
  obtain ⟨l, k1, k2, k3⟩ := lcs_has a b
  have e1 := k1.eq_of_length (by omega)
  have e2 := k2.eq_of_length (by omega)
  rw [← e1, ← e2]
theorem lcs_pre (p a b : List α) : lcs (p ++ a) (p ++ b) = p.length + lcs a b := by
  induction p with
  | nil => simp
  | cons x p ih => simp only [List.cons_append, lcs_same, ih, List.length_cons]; omega
theorem lcs_rev_le (a b : List α) : lcs a b ≤ lcs a.reverse b.reverse := by
  obtain ⟨l, h1, h2, h3⟩ := lcs_has a b
  have := lcs_max a.reverse b.reverse l.reverse (List.reverse_sublist.2 h1) (List.reverse_sublist.2 h2)
  rw [List.length_reverse] at this; omega
theorem lcs_rev (a b : List α) : lcs a.reverse b.reverse = lcs a b := by
  have h1 := lcs_rev_le a b
  have h2 := lcs_rev_le a.reverse b.reverse
  rw [List.reverse_reverse, List.reverse_reverse] at h2
  omega
theorem lcs_suf (s a b : List α) : lcs (a ++ s) (b ++ s) = lcs a b + s.length := by
  rw [← lcs_rev, List.reverse_append, List.reverse_append, lcs_pre, lcs_rev, List.length_reverse]; omega
/-- the triangle inequality -/
theorem lcs_tri (a b c : List α) : lcs a b + lcs b c ≤ b.length + lcs a c := by
  match a, b, c with
  | [], b, c => rw [lcs_nil]; have := (lcs_le b c).1; omega
  | a, [], c => rw [lcs_nil', lcs_nil]; omega
  | a, b, [] => rw [lcs_nil', lcs_nil']; have := (lcs_le a b).2; omega
  | x :: a, y :: b, z :: c =>
    by_cases e : x = y
    · subst e
      by_cases e2 : x = z
      · subst e2
        have := lcs_tri a b c
        rw [lcs_same, lcs_same, lcs_same]; simp; omega
      · rw [lcs_same, lcs_other e2 b c]
        rcases Nat.le_total (lcs b (z :: c)) (lcs (x :: b) c) with h | h
        · have h1 := lcs_tri (x :: a) (x :: b) c
          rw [lcs_same] at h1
          have h2 := lcs_mono' z (x :: a) c
          omega
        · have h1 := lcs_tri a b (z :: c)
          have h2 := lcs_mono x a (z :: c)
          simp; omega
    · rw [lcs_other e]
      rcases Nat.le_total (lcs a (y :: b)) (lcs (x :: a) b) with h | h
      · have h1 := lcs_tri (x :: a) b (z :: c)
        have h2 := lcs_one y b (z :: c)
        simp; omega
      · have h1 := lcs_tri a (y :: b) (z :: c)
        have h2 := lcs_mono x a (z :: c)
        omega
termination_by a.length + b.length + c.length

/-! alignments -/
/-- kept 0, deleted 1, inserted 2 -/
def al : List α → List α → List (Nat × α)
  | [], [] => []
  | [], y :: b => (2, y) :: al [] b
  | x :: a, [] => (1, x) :: al a []
  | x :: a, y :: b => if x = y then (0, x) :: al a b else if lcs (x :: a) b ≤ lcs a (y :: b) then (1, x) :: al a (y :: b) else (2, y) :: al (x :: a) b
termination_by a b => a.length + b.length
/-- the kept ones -/
def kp (a b : List α) : List α := ((al a b).filter (fun s => s.1 == 0)).map (·.2)
theorem kp_nil (b : List α) : kp [] b = [] := by
  induction b with
  | nil => simp [kp, al]
  | cons y b ih => unfold kp at *; rw [al]; simpa using ih
theorem kp_nil' (a : List α) : kp a [] = [] := by
  induction a with
  | nil => simp [kp, al]
  | cons y b ih => unfold kp at *; rw [al]; simpa using ih
theorem kp_same (x : α) (a b : List α) : kp (x :: a) (x :: b) = x :: kp a b := by unfold kp; rw [al, if_pos rfl]; rfl
theorem kp_del {x y : α} (h : x ≠ y) (a b : List α) (hl : lcs (x :: a) b ≤ lcs a (y :: b)) : kp (x :: a) (y :: b) = kp a (y :: b) := by unfold kp; rw [al, if_neg h, if_pos hl]; rfl
theorem kp_ins {x y : α} (h : x ≠ y) (a b : List α) (hl : ¬ lcs (x :: a) b ≤ lcs a (y :: b)) : kp (x :: a) (y :: b) = kp (x :: a) b := by unfold kp; rw [al, if_neg h, if_neg hl]; rfl
theorem kp_all (a b : List α) : (kp a b).Sublist a ∧ (kp a b).Sublist b ∧ (kp a b).length = lcs a b := by
  match a, b with
  | [], b => rw [kp_nil, lcs_nil]; exact ⟨List.nil_sublist _, List.nil_sublist _, rfl⟩
  | x :: a, [] => rw [kp_nil', lcs_nil']; exact ⟨List.nil_sublist _, List.nil_sublist _, rfl⟩
  | x :: a, y :: b =>
    by_cases e : x = y
    · subst e
      obtain ⟨h1, h2, h3⟩ := kp_all a b
      rw [kp_same, lcs_same]
      exact ⟨h1.cons_cons x, h2.cons_cons x, by rw [← h3]; rfl⟩
    · by_cases hl : lcs (x :: a) b ≤ lcs a (y :: b)
      · obtain ⟨h1, h2, h3⟩ := kp_all a (y :: b)
        rw [kp_del e a b hl, lcs_other e]
        exact ⟨h1.cons x, h2, by rw [h3]; omega⟩
      · obtain ⟨h1, h2, h3⟩ := kp_all (x :: a) b
        rw [kp_ins e a b hl, lcs_other e]
        exact ⟨h1, h2.cons y, by rw [h3]; omega⟩
termination_by a.length + b.length

/-! the walk by indices -/
theorem al_keep (a b : List α) (i j : Nat) (hi : i < a.length) (hj : j < b.length) (h : a[i] = b[j]) : al (a.drop i) (b.drop j) = (0, a[i]) :: al (a.drop (i + 1)) (b.drop (j + 1)) := by
  rw [List.drop_eq_getElem_cons hi, List.drop_eq_getElem_cons hj, al, if_pos h]
theorem al_del (a b : List α) (i j : Nat) (hi : i < a.length) (h : ∀ hj : j < b.length, a[i] ≠ b[j] ∧ lcs (a.drop i) (b.drop (j + 1)) ≤ lcs (a.drop (i + 1)) (b.drop j)) : al (a.drop i) (b.drop j) = (1, a[i]) :: al (a.drop (i + 1)) (b.drop j) := by
  by_cases hj : j < b.length
  · obtain ⟨h1, h2⟩ := h hj
    rw [List.drop_eq_getElem_cons hi] at h2 ⊢
    rw [List.drop_eq_getElem_cons hj] at h2 ⊢
    rw [al, if_neg h1, if_pos h2]
  · have e : b.drop j = [] := List.drop_eq_nil_of_le (by omega)
    rw [e, List.drop_eq_getElem_cons hi, al]
theorem al_ins (a b : List α) (i j : Nat) (hj : j < b.length) (h : ∀ hi : i < a.length, a[i] ≠ b[j] ∧ ¬ lcs (a.drop i) (b.drop (j + 1)) ≤ lcs (a.drop (i + 1)) (b.drop j)) : al (a.drop i) (b.drop j) = (2, b[j]) :: al (a.drop i) (b.drop (j + 1)) := by
  by_cases hi : i < a.length
  · obtain ⟨h1, h2⟩ := h hi
    rw [List.drop_eq_getElem_cons hi] at h2 ⊢
    rw [List.drop_eq_getElem_cons hj] at h2 ⊢
    rw [al, if_neg h1, if_neg h2]
  · have e : a.drop i = [] := List.drop_eq_nil_of_le (by omega)
    rw [e, List.drop_eq_getElem_cons hj, al]
theorem al_end (a b : List α) (i j : Nat) (hi : a.length ≤ i) (hj : b.length ≤ j) : al (a.drop i) (b.drop j) = [] := by
  rw [List.drop_eq_nil_of_le hi, List.drop_eq_nil_of_le hj, al]
theorem lcs_at (a b : List α) (i j : Nat) (hi : i < a.length) (hj : j < b.length) : lcs (a.drop i) (b.drop j) =
    max (max (lcs (a.drop i) (b.drop (j + 1))) (lcs (a.drop (i + 1)) (b.drop j))) (if a[i] = b[j] then lcs (a.drop (i + 1)) (b.drop (j + 1)) + 1 else 0) := by
  have e1 := List.drop_eq_getElem_cons hi
  have e2 := List.drop_eq_getElem_cons hj
  rw [e1, e2, lcs_table]

/-! scripts -/
structure Hk (α : Type) where
  at' : Int
  old : List α
  new : List α
structure St (α : Type) where
  hs : List (Hk α)
  at' : Nat
  open' : Bool
def onLast (f : Hk α → Hk α) : List (Hk α) → List (Hk α)
  | [] => []
  | [h] => [f h]
  | h :: k :: r => h :: onLast f (k :: r)
def pst (s : St α) (x : Nat × α) : St α :=
  if x.1 = 0 then { hs := s.hs, at' := s.at' + 1, open' := false }
  else
    if x.1 = 1 then { hs := onLast (fun h => { h with old := h.old ++ [x.2] }) (if s.open' then s.hs else s.hs ++ [⟨s.at', [], []⟩]), at' := s.at' + 1, open' := true }
    else { hs := onLast (fun h => { h with new := h.new ++ [x.2] }) (if s.open' then s.hs else s.hs ++ [⟨s.at', [], []⟩]), at' := s.at', open' := true }
def pof (l : List (Nat × α)) : List (Hk α) := (l.foldl pst ⟨[], 0, false⟩).hs
end Go.Proofs.Ytolpbeemeignaaa.Dif
