
/-
  Plain mathematics of longest common subsequences, alignments and scripts (no program here).
  The reference's table of longest common subsequences, walked.
  The reference's suffixes, walked.
-/
import Derived.Below
import Derived.Test.YtcheggdfcdokiaaDoorLinA
import Derived.Laws.MakeOwn
namespace Go.Proofs.YtcheggdfcdokiaaDoor.Dif

theorem sub_tail {α : Type} {z x : α} {l a : List α} (h : (z :: l).Sublist (x :: a)) : l.Sublist a := by
  cases h with
  | cons _ h => exact (List.sublist_cons_self z l).trans h
  | cons_cons _ h => exact h
theorem sub_drop {α : Type} {x y : α} {l b : List α} (h : (x :: l).Sublist (y :: b)) (hne : x ≠ y) : (x :: l).Sublist b := by
  cases h with
  | cons _ h => exact h
  | cons_cons _ h => exact (hne rfl).elim

variable {α : Type} [DecidableEq α]

/-- the length of the longest common subsequence -/
def lcs : List α → List α → Nat
  | [], _ => 0
  | _ :: _, [] => 0
  | x :: a, y :: b => if x = y then lcs a b + 1 else max (lcs a (y :: b)) (lcs (x :: a) b)
termination_by a b => a.length + b.length

theorem lcs_nil (b : List α) : lcs [] b = 0 := by rw [lcs]
theorem lcs_nil' (a : List α) : lcs a [] = 0 := by cases a <;> rw [lcs]
theorem lcs_same (x : α) (a b : List α) : lcs (x :: a) (x :: b) = lcs a b + 1 := by rw [lcs, if_pos rfl]
theorem lcs_other {x y : α} (h : x ≠ y) (a b : List α) : lcs (x :: a) (y :: b) = max (lcs a (y :: b)) (lcs (x :: a) b) := by rw [lcs, if_neg h]

/-- no common subsequence is longer -/
theorem lcs_max (a b : List α) : ∀ l : List α, l.Sublist a → l.Sublist b → l.length ≤ lcs a b := by
  match a, b with
  | [], b => intro l h _; rw [List.sublist_nil.1 h]; simp
  | x :: a, [] => intro l _ h; rw [List.sublist_nil.1 h]; simp
  | x :: a, y :: b =>
    intro l h1 h2
    by_cases e : x = y
    · subst e
      rw [lcs_same]
      cases l with
      | nil => simp
      | cons z l =>
        have := lcs_max a b l (sub_tail h1) (sub_tail h2)
        simp; omega
    · rw [lcs_other e]
      cases h1 with
      | cons _ h1 =>
        have := lcs_max a (y :: b) l h1 h2
        omega
      | cons_cons _ h1 =>
        have := lcs_max (x :: a) b _ (h1.cons_cons x) (sub_drop h2 e)
        omega
termination_by a.length + b.length

/-- there is one of that length -/
theorem lcs_has (a b : List α) : ∃ l : List α, l.Sublist a ∧ l.Sublist b ∧ l.length = lcs a b := by
  match a, b with
  | [], b => exact ⟨[], List.Sublist.refl _, List.nil_sublist _, by rw [lcs_nil]; rfl⟩
  | x :: a, [] => exact ⟨[], List.nil_sublist _, List.Sublist.refl _, by rw [lcs_nil']; rfl⟩
  | x :: a, y :: b =>
    by_cases e : x = y
    · subst e
      obtain ⟨l, h1, h2, h3⟩ := lcs_has a b
      exact ⟨x :: l, h1.cons_cons x, h2.cons_cons x, by rw [lcs_same, ← h3]; rfl⟩
    · rw [lcs_other e]
      rcases Nat.le_total (lcs a (y :: b)) (lcs (x :: a) b) with h | h
      · obtain ⟨l, h1, h2, h3⟩ := lcs_has (x :: a) b
        exact ⟨l, h1, h2.cons y, by rw [h3]; omega⟩
      · obtain ⟨l, h1, h2, h3⟩ := lcs_has a (y :: b)
        exact ⟨l, h1.cons x, h2, by rw [h3]; omega⟩
termination_by a.length + b.length

theorem lcs_comm (a b : List α) : lcs a b = lcs b a := by
  obtain ⟨l, h1, h2, h3⟩ := lcs_has a b
  obtain ⟨m, k1, k2, k3⟩ := lcs_has b a
  have := lcs_max b a l h2 h1
  have := lcs_max a b m k2 k1
  omega
theorem lcs_le (a b : List α) : lcs a b ≤ a.length ∧ lcs a b ≤ b.length := by
  obtain ⟨l, h1, h2, h3⟩ := lcs_has a b
  exact ⟨h3 ▸ h1.length_le, h3 ▸ h2.length_le⟩
theorem lcs_mono (x : α) (a b : List α) : lcs a b ≤ lcs (x :: a) b := by
  obtain ⟨l, h1, h2, h3⟩ := lcs_has a b
  rw [← h3]; exact lcs_max _ _ l (h1.cons x) h2
theorem lcs_mono' (y : α) (a b : List α) : lcs a b ≤ lcs a (y :: b) := by
  rw [lcs_comm, lcs_comm a]; exact lcs_mono y b a
theorem lcs_one (x : α) (a b : List α) : lcs (x :: a) b ≤ lcs a b + 1 := by
  obtain ⟨l, h1, h2, h3⟩ := lcs_has (x :: a) b
  rw [← h3]
  cases l with
  | nil => simp
  | cons z l =>
    have := lcs_max a b l (sub_tail h1) ((List.sublist_cons_self z l).trans h2)
    simp; omega
theorem lcs_one' (y : α) (a b : List α) : lcs a (y :: b) ≤ lcs a b + 1 := by
  rw [lcs_comm, lcs_comm a]; exact lcs_one y b a
/-- the table's step, as a reader may write it -/
theorem lcs_table (x y : α) (a b : List α) : lcs (x :: a) (y :: b) = max (max (lcs (x :: a) b) (lcs a (y :: b))) (if x = y then lcs a b + 1 else 0) := by
  by_cases e : x = y
  · subst e
    have h1 := lcs_one x a b
    have h2 := lcs_one' x a b
    rw [lcs_same, if_pos rfl]; omega
  · rw [lcs_other e, if_neg e]; omega
theorem lcs_self (a : List α) : lcs a a = a.length := by
  have h := lcs_max a a a (List.Sublist.refl _) (List.Sublist.refl _)
  have := (lcs_le a a).1
  omega
theorem lcs_full {a b : List α} (h1 : lcs a b = a.length) (h2 : lcs a b = b.length) : a = b := by
  obtain ⟨l, k1, k2, k3⟩ := lcs_has a b
  have e1 := k1.eq_of_length (by omega)
  have e2 := k2.eq_of_length (by omega)
  rw [← e1, ← e2]
theorem lcs_pre (p a b : List α) : lcs (p ++ a) (p ++ b) = p.length + lcs a b := by
  induction p with
  | nil => simp
  | cons x p ih => simp only [List.cons_append, lcs_same, ih, List.length_cons]; omega
theorem lcs_rev_le (a b : List α) : lcs a b ≤ lcs a.reverse b.reverse := by
  obtain ⟨l, h1, h2, h3⟩ := lcs_has a b
  have := lcs_max a.reverse b.reverse l.reverse (List.reverse_sublist.2 h1) (List.reverse_sublist.2 h2)
  rw [List.length_reverse] at this; omega
theorem lcs_rev (a b : List α) : lcs a.reverse b.reverse = lcs a b := by
  have h1 := lcs_rev_le a b
  have h2 := lcs_rev_le a.reverse b.reverse
  rw [List.reverse_reverse, List.reverse_reverse] at h2
  omega
theorem lcs_suf (s a b : List α) : lcs (a ++ s) (b ++ s) = lcs a b + s.length := by
  rw [← lcs_rev, List.reverse_append, List.reverse_append, lcs_pre, lcs_rev, List.length_reverse]; omega
/-- the triangle inequality -/
theorem lcs_tri (a b c : List α) : lcs a b + lcs b c ≤ b.length + lcs a c := by
  match a, b, c with
  | [], b, c => rw [lcs_nil]; have := (lcs_le b c).1; omega
  | a, [], c => rw [lcs_nil', lcs_nil]; omega
  | a, b, [] => rw [lcs_nil', lcs_nil']; have := (lcs_le a b).2; omega
  | x :: a, y :: b, z :: c =>
    by_cases e : x = y
    · subst e
      by_cases e2 : x = z
      · subst e2
        have := lcs_tri a b c
        rw [lcs_same, lcs_same, lcs_same]; simp; omega
      · rw [lcs_same, lcs_other e2 b c]
        rcases Nat.le_total (lcs b (z :: c)) (lcs (x :: b) c) with h | h
        · have h1 := lcs_tri (x :: a) (x :: b) c
          rw [lcs_same] at h1
          have h2 := lcs_mono' z (x :: a) c
          omega
        · have h1 := lcs_tri a b (z :: c)
          have h2 := lcs_mono x a (z :: c)
          simp; omega
    · rw [lcs_other e]
      rcases Nat.le_total (lcs a (y :: b)) (lcs (x :: a) b) with h | h
      · have h1 := lcs_tri (x :: a) b (z :: c)
        have h2 := lcs_one y b (z :: c)
        simp; omega
      · have h1 := lcs_tri a (y :: b) (z :: c)
        have h2 := lcs_mono x a (z :: c)
        omega
termination_by a.length + b.length + c.length

/-! alignments -/
/-- kept 0, deleted 1, inserted 2 -/
def al : List α → List α → List (Nat × α)
  | [], [] => []
  | [], y :: b => (2, y) :: al [] b
  | x :: a, [] => (1, x) :: al a []
  | x :: a, y :: b => if x = y then (0, x) :: al a b else if lcs (x :: a) b ≤ lcs a (y :: b) then (1, x) :: al a (y :: b) else (2, y) :: al (x :: a) b
termination_by a b => a.length + b.length
/-- the kept ones -/
def kp (a b : List α) : List α := ((al a b).filter (fun s => s.1 == 0)).map (·.2)
theorem kp_nil (b : List α) : kp [] b = [] := by
  induction b with
  | nil => simp [kp, al]
  | cons y b ih => unfold kp at *; rw [al]; simpa using ih
theorem kp_nil' (a : List α) : kp a [] = [] := by
  induction a with
  | nil => simp [kp, al]
  | cons y b ih => unfold kp at *; rw [al]; simpa using ih
theorem kp_same (x : α) (a b : List α) : kp (x :: a) (x :: b) = x :: kp a b := by unfold kp; rw [al, if_pos rfl]; rfl
theorem kp_del {x y : α} (h : x ≠ y) (a b : List α) (hl : lcs (x :: a) b ≤ lcs a (y :: b)) : kp (x :: a) (y :: b) = kp a (y :: b) := by unfold kp; rw [al, if_neg h, if_pos hl]; rfl
theorem kp_ins {x y : α} (h : x ≠ y) (a b : List α) (hl : ¬ lcs (x :: a) b ≤ lcs a (y :: b)) : kp (x :: a) (y :: b) = kp (x :: a) b := by unfold kp; rw [al, if_neg h, if_neg hl]; rfl
theorem kp_all (a b : List α) : (kp a b).Sublist a ∧ (kp a b).Sublist b ∧ (kp a b).length = lcs a b := by
  match a, b with
  | [], b => rw [kp_nil, lcs_nil]; exact ⟨List.nil_sublist _, List.nil_sublist _, rfl⟩
  | x :: a, [] => rw [kp_nil', lcs_nil']; exact ⟨List.nil_sublist _, List.nil_sublist _, rfl⟩
  | x :: a, y :: b =>
    by_cases e : x = y
    · subst e
      obtain ⟨h1, h2, h3⟩ := kp_all a b
      rw [kp_same, lcs_same]
      exact ⟨h1.cons_cons x, h2.cons_cons x, by rw [← h3]; rfl⟩
    · by_cases hl : lcs (x :: a) b ≤ lcs a (y :: b)
      · obtain ⟨h1, h2, h3⟩ := kp_all a (y :: b)
        rw [kp_del e a b hl, lcs_other e]
        exact ⟨h1.cons x, h2, by rw [h3]; omega⟩
      · obtain ⟨h1, h2, h3⟩ := kp_all (x :: a) b
        rw [kp_ins e a b hl, lcs_other e]
        exact ⟨h1, h2.cons y, by rw [h3]; omega⟩
termination_by a.length + b.length

/-! the walk by indices -/
theorem al_keep (a b : List α) (i j : Nat) (hi : i < a.length) (hj : j < b.length) (h : a[i] = b[j]) : al (a.drop i) (b.drop j) = (0, a[i]) :: al (a.drop (i + 1)) (b.drop (j + 1)) := by
  rw [List.drop_eq_getElem_cons hi, List.drop_eq_getElem_cons hj, al, if_pos h]
theorem al_del (a b : List α) (i j : Nat) (hi : i < a.length) (h : ∀ hj : j < b.length, a[i] ≠ b[j] ∧ lcs (a.drop i) (b.drop (j + 1)) ≤ lcs (a.drop (i + 1)) (b.drop j)) : al (a.drop i) (b.drop j) = (1, a[i]) :: al (a.drop (i + 1)) (b.drop j) := by
  by_cases hj : j < b.length
  · obtain ⟨h1, h2⟩ := h hj
    rw [List.drop_eq_getElem_cons hi] at h2 ⊢
    rw [List.drop_eq_getElem_cons hj] at h2 ⊢
    rw [al, if_neg h1, if_pos h2]
  · have e : b.drop j = [] := List.drop_eq_nil_of_le (by omega)
    rw [e, List.drop_eq_getElem_cons hi, al]
theorem al_ins (a b : List α) (i j : Nat) (hj : j < b.length) (h : ∀ hi : i < a.length, a[i] ≠ b[j] ∧ ¬ lcs (a.drop i) (b.drop (j + 1)) ≤ lcs (a.drop (i + 1)) (b.drop j)) : al (a.drop i) (b.drop j) = (2, b[j]) :: al (a.drop i) (b.drop (j + 1)) := by
  by_cases hi : i < a.length
  · obtain ⟨h1, h2⟩ := h hi
    rw [List.drop_eq_getElem_cons hi] at h2 ⊢
    rw [List.drop_eq_getElem_cons hj] at h2 ⊢
    rw [al, if_neg h1, if_neg h2]
  · have e : a.drop i = [] := List.drop_eq_nil_of_le (by omega)
    rw [e, List.drop_eq_getElem_cons hj, al]
theorem al_end (a b : List α) (i j : Nat) (hi : a.length ≤ i) (hj : b.length ≤ j) : al (a.drop i) (b.drop j) = [] := by
  rw [List.drop_eq_nil_of_le hi, List.drop_eq_nil_of_le hj, al]
theorem lcs_at (a b : List α) (i j : Nat) (hi : i < a.length) (hj : j < b.length) : lcs (a.drop i) (b.drop j) =
    max (max (lcs (a.drop i) (b.drop (j + 1))) (lcs (a.drop (i + 1)) (b.drop j))) (if a[i] = b[j] then lcs (a.drop (i + 1)) (b.drop (j + 1)) + 1 else 0) := by
  have e1 := List.drop_eq_getElem_cons hi
  have e2 := List.drop_eq_getElem_cons hj
  rw [e1, e2, lcs_table]

/-! scripts -/
structure Hk (α : Type) where
  at' : Int
  old : List α
  new : List α
structure St (α : Type) where
  hs : List (Hk α)
  at' : Nat
  open' : Bool
def onLast (f : Hk α → Hk α) : List (Hk α) → List (Hk α)
  | [] => []
  | [h] => [f h]
  | h :: k :: r => h :: onLast f (k :: r)
def pst (s : St α) (x : Nat × α) : St α :=
  if x.1 = 0 then { hs := s.hs, at' := s.at' + 1, open' := false }
  else
    if x.1 = 1 then { hs := onLast (fun h => { h with old := h.old ++ [x.2] }) (if s.open' then s.hs else s.hs ++ [⟨s.at', [], []⟩]), at' := s.at' + 1, open' := true }
    else { hs := onLast (fun h => { h with new := h.new ++ [x.2] }) (if s.open' then s.hs else s.hs ++ [⟨s.at', [], []⟩]), at' := s.at', open' := true }
def pof (l : List (Nat × α)) : List (Hk α) := (l.foldl pst ⟨[], 0, false⟩).hs
end Go.Proofs.YtcheggdfcdokiaaDoor.Dif
namespace Go.Proofs.YtcheggdfcdokiaaDoor
open Go.RowKit
set_option maxRecDepth 4000

theorem make_row {P : Program} (t e : TypeId) (i : TypeInfo) (z : Value) (ht : P.underlying t = some (.slice e)) (hi : P.info? e = some i) (hz : i.zero = some z)
    (n : Nat) (hbytes : i.bytes * n ≤ 281474976710656) (h63 : n ≤ 9223372036854775807) (w : World) :
    (Instr.makeSlice t (.int .i64 (n : Int)) (.int .i64 (n : Int))).run P w = .ok (.slice (some ⟨w.heap.size, 0, none⟩) n n) (w.alloc (.cells (madeCells z.cells (n * i.size)) e)) := by
  have hb : (i.bytes : Int) * (n : Int) ≤ 281474976710656 := by
    have h : ((i.bytes * n : Nat) : Int) ≤ 281474976710656 := by omega
    rwa [Int.natCast_mul] at h
  have hr := run_make (P := P) w t e i z ht hi hz .i64 .i64 n n (by omega) (by omega) hb (by omega)
  simp only [Int.toNat_natCast] at hr
  exact hr
/-- the cells that 'make' lays, one to an element -/
def zr (v : Value) (n : Nat) : Array Value := madeCells #[v] n
theorem zr_at (v : Value) (n i : Nat) (h : i < n) : (zr v n)[i]? = some v := by
  unfold zr madeCells
  simp [h, Nat.mod_one]
theorem zr_cell (w : World) (v : Value) (n i : Nat) (t : TypeId) (h : i < n) : (w.alloc (.cells (zr v n) t (0, 0))).cell? ⟨w.heap.size, i, none⟩ = some v := by
  rw [World.cell?_alloc_mark]
  simpa using zr_at v n i h
theorem infoI : (Tryd.prog.info? 3).map (fun i => (i.zero, i.size, i.bytes)) = some (some (.int .i64 0), 1, 8) := by kernel_rfl
theorem infoII : (Tryd.prog.info? 30).map (fun i => (i.zero, i.size, i.bytes)) = some (some (.slice none 0 0), 1, 24) := by kernel_rfl
theorem mk_ints (n : Nat) (h : n ≤ 1000001) (w : World) : (Instr.makeSlice 30 (.int .i64 (n : Int)) (.int .i64 (n : Int))).run Tryd.prog w = .ok (.slice (some ⟨w.heap.size, 0, none⟩) n n) (w.alloc (.cells (zr (.int .i64 0) n) 3 (0, 0))) := by
  obtain ⟨i0, hi, hz0, hz1, hz2⟩ := info_parts infoI
  rw [make_row 30 3 i0 _ Tryd.underlying30 hi hz0 n (by rw [hz2]; omega) (by omega) w, hz1, Nat.mul_one]; rfl
/-- a cell of the table -/
def tv (a b : List ByteArray) (i j : Nat) : Nat := Dif.lcs (a.drop i) (b.drop j)
theorem tv_le (a b : List ByteArray) (i j : Nat) : tv a b i j ≤ a.length := by
  have := (Dif.lcs_le (a.drop i) (b.drop j)).1
  rw [List.length_drop] at this
  unfold tv; omega
theorem tv_hi (a b : List ByteArray) (i j : Nat) (h : a.length ≤ i) : tv a b i j = 0 := by
  unfold tv; rw [List.drop_eq_nil_of_le h, Dif.lcs_nil]
theorem tv_hi' (a b : List ByteArray) (i j : Nat) (h : b.length ≤ j) : tv a b i j = 0 := by
  unfold tv; rw [List.drop_eq_nil_of_le h, Dif.lcs_nil']
theorem tv_at (a b : List ByteArray) (i j : Nat) (hi : i < a.length) (hj : j < b.length) : tv a b i j = max (max (tv a b i (j + 1)) (tv a b (i + 1) j)) (if a[i] = b[j] then tv a b (i + 1) (j + 1) + 1 else 0) :=
  Dif.lcs_at a b i j hi hj

/-- the table while it is filled: columns above j are done, column j from index I on -/
structure Tc (w : World) (g : Nat) (a b : List ByteArray) (j I : Nat) (r : Nat → Nat) : Prop where
  cols : ∀ k, j ≤ k → k ≤ b.length → w.cell? ⟨g, k, none⟩ = some (.slice (some ⟨r k, 0, none⟩) (a.length + 1) (a.length + 1))
  far : ∀ k, j ≤ k → k ≤ b.length → g < r k ∧ r k < w.heap.size
  apart : ∀ k, j < k → k ≤ b.length → r k ≠ r j
  vals : ∀ k i, j ≤ k → k ≤ b.length → i ≤ a.length → (k = j → I ≤ i) → w.cell? ⟨r k, i, none⟩ = some (.int .i64 (tv a b i k : Nat))
  zero : j ≤ b.length → ∀ i, i < I → w.cell? ⟨r j, i, none⟩ = some (.int .i64 0)
  frz : j ≤ b.length → ∀ i, i ≤ a.length → w.frozen? ⟨r j, i, none⟩ = false
  low : ∀ k, k < j → k ≤ b.length → w.cell? ⟨g, k, none⟩ = some (.slice none 0 0)
  gfrz : ∀ k, k ≤ b.length → w.frozen? ⟨g, k, none⟩ = false
  lt : g < w.heap.size
theorem Tc.new (w : World) (a b : List ByteArray) (t : TypeId) (r : Nat → Nat) : Tc (w.alloc (.cells (zr (.slice none 0 0) (b.length + 1)) t (0, 0))) w.heap.size a b (b.length + 1) 0 r := by
  refine ⟨fun k h1 h2 => by omega, fun k h1 h2 => by omega, fun k h1 h2 => by omega, fun k i h1 h2 => by omega, fun h => by omega, fun h => by omega, fun k h1 h2 => zr_cell _ _ _ _ _ (by omega), fun k h => ?_, by rw [World.size_alloc]; omega⟩
  rw [World.frozen?_alloc_mark]; rfl
theorem Tc.col {w : World} {g : Nat} {a b : List ByteArray} {j : Nat} {r : Nat → Nat} (h : Tc w g a b (j + 1) 0 r) (hj : j ≤ b.length) (t : TypeId) :
    Tc ((w.alloc (.cells (zr (.int .i64 0) (a.length + 1)) t (0, 0))).setCell ⟨g, j, none⟩ (.slice (some ⟨w.heap.size, 0, none⟩) (a.length + 1) (a.length + 1))) g a b j a.length (fun k => if k = j then w.heap.size else r k) := by
  have hg := h.lt
  have old : ∀ (x y : Nat), x < w.heap.size → (⟨x, y, none⟩ : Addr) ≠ ⟨g, j, none⟩ → ((w.alloc (.cells (zr (.int .i64 0) (a.length + 1)) t (0, 0))).setCell ⟨g, j, none⟩ (.slice (some ⟨w.heap.size, 0, none⟩) (a.length + 1) (a.length + 1))).cell? ⟨x, y, none⟩ = w.cell? ⟨x, y, none⟩ := by
    intro x y hx hne
    rw [World.cell?_setCell_other (h := hne.symm)]
    exact ((Below.refl w.heap.size w).alloc (Nat.le_refl _) _).cell (p := ⟨x, y, none⟩) hx
  have new : ∀ i, i ≤ a.length → ((w.alloc (.cells (zr (.int .i64 0) (a.length + 1)) t (0, 0))).setCell ⟨g, j, none⟩ (.slice (some ⟨w.heap.size, 0, none⟩) (a.length + 1) (a.length + 1))).cell? ⟨w.heap.size, i, none⟩ = some (.int .i64 0) := by
    intro i hi
    rw [World.cell?_setCell_other (h := by intro e; cases e; omega)]
    exact zr_cell _ _ _ _ _ (by omega)
  refine ⟨fun k h1 h2 => ?_, fun k h1 h2 => ?_, fun k h1 h2 => ?_, fun k i h1 h2 h3 h4 => ?_, fun _ i hi => ?_, fun _ i hi => ?_, fun k h1 h2 => ?_, fun k hk => ?_, ?_⟩
  · by_cases e : k = j
    · subst e
      rw [if_pos rfl]
      refine World.cell?_setCell_same _ _ _ (?_ : _ = some (.slice none 0 0))
      rw [← h.low k (by omega) h2]
      exact ((Below.refl w.heap.size w).alloc (Nat.le_refl _) _).cell (p := ⟨g, k, none⟩) hg
    · rw [if_neg e, old _ _ hg (by intro e'; cases e'; exact e rfl), h.cols k (by omega) h2]
  · rw [World.size_setCell, World.size_alloc]
    by_cases e : k = j
    · rw [if_pos e]; omega
    · rw [if_neg e]; have := h.far k (by omega) h2; omega
  · rw [if_neg (by omega), if_pos rfl]; have := h.far k (by omega) h2; omega
  · by_cases e : k = j
    · rw [if_pos e, new i h3]
      have := h4 e
      rw [tv_hi a b i k this]; rfl
    · have := h.far k (by omega) h2
      rw [if_neg e, old _ _ this.2 (by intro e'; cases e'; omega), h.vals k i (by omega) h2 h3 (by intro e'; omega)]
  · rw [if_pos rfl]; exact new i (by omega)
  · rw [if_pos rfl, World.frozen?_setCell, World.frozen?_alloc_mark]; rfl
  · rw [old _ _ hg (by intro e'; cases e'; omega), h.low k (by omega) h2]
  · rw [World.frozen?_setCell, ← h.gfrz k hk]
    exact ((Below.refl w.heap.size w).alloc (Nat.le_refl _) _).frozen (p := ⟨g, k, none⟩) hg
  · rw [World.size_setCell, World.size_alloc]; omega
theorem Tc.last {w : World} {g : Nat} {a b : List ByteArray} {r : Nat → Nat} (h : Tc w g a b b.length a.length r) : Tc w g a b b.length 0 r := by
  refine ⟨h.cols, h.far, h.apart, fun k i h1 h2 h3 h4 => ?_, fun _ i hi => by omega, h.frz, h.low, h.gfrz, h.lt⟩
  have e : k = b.length := by omega
  subst e
  by_cases hi : i < a.length
  · rw [h.zero h2 i hi, tv_hi' a b i _ (Nat.le_refl _)]; rfl
  · exact h.vals _ i h1 h2 h3 (fun _ => by omega)
theorem Tc.last' {w : World} {g : Nat} {a b : List ByteArray} {j : Nat} {r : Nat → Nat} (h : Tc w g a b j a.length r) (hj : j = b.length) : Tc w g a b j 0 r := by
  subst hj; exact h.last
theorem Tc.step {w : World} {g : Nat} {a b : List ByteArray} {j i : Nat} {r : Nat → Nat} (h : Tc w g a b j (i + 1) r) (hj : j ≤ b.length) (hi : i < a.length) :
    Tc (w.setCell ⟨r j, i, none⟩ (.int .i64 (tv a b i j : Nat))) g a b j i r := by
  have hz := h.zero hj i (by omega)
  have fj := h.far j (Nat.le_refl _) hj
  refine ⟨fun k h1 h2 => ?_, fun k h1 h2 => ?_, h.apart, fun k i' h1 h2 h3 h4 => ?_, fun _ i' hi' => ?_, fun hj i' hi' => ?_, fun k h1 h2 => ?_, fun k hk => ?_, ?_⟩
  · rw [World.cell?_setCell_other (h := by intro e; cases e; omega), h.cols k h1 h2]
  · rw [World.size_setCell]; exact h.far k h1 h2
  · by_cases e : k = j
    · subst e
      by_cases e2 : i' = i
      · subst e2; exact World.cell?_setCell_same _ _ _ hz
      · rw [World.cell?_setCell_other (h := by intro e; cases e; exact e2 rfl), h.vals k i' h1 h2 h3 (fun _ => by have := h4 rfl; omega)]
    · rw [World.cell?_setCell_other (h := fun e' => h.apart k (by omega) h2 (Addr.mk.inj e').1.symm), h.vals k i' h1 h2 h3 (fun e' => (e e').elim)]
  · rw [World.cell?_setCell_other (h := by intro e; cases e; omega), h.zero hj i' (by omega)]
  · rw [World.frozen?_setCell]; exact h.frz hj i' hi'
  · rw [World.cell?_setCell_other (h := by intro e; cases e; omega), h.low k h1 h2]
  · rw [World.frozen?_setCell]; exact h.gfrz k hk
  · rw [World.size_setCell]; exact h.lt
theorem Tc.drewN {w : World} {g : Nat} {a b : List ByteArray} {j I : Nat} {r : Nat → Nat} (h : Tc w g a b j I r) (n : Nat) : Tc (w.drewN n) g a b j I r :=
  ⟨h.cols, h.far, h.apart, h.vals, h.zero, h.frz, h.low, h.gfrz, h.lt⟩

/-- the table, done -/
structure Tab (w : World) (g : Nat) (a b : List ByteArray) : Prop where
  rows : ∃ r : Nat → Nat, (∀ k, k ≤ b.length → w.cell? ⟨g, k, none⟩ = some (.slice (some ⟨r k, 0, none⟩) (a.length + 1) (a.length + 1)) ∧ r k < w.heap.size ∧
    ∀ i, i ≤ a.length → w.cell? ⟨r k, i, none⟩ = some (.int .i64 (tv a b i k : Nat)))
  lt : g < w.heap.size
theorem Tab.of {w : World} {g : Nat} {a b : List ByteArray} {r : Nat → Nat} (h : Tc w g a b 0 0 r) : Tab w g a b :=
  ⟨⟨r, fun k hk => ⟨h.cols k (by omega) hk, (h.far k (by omega) hk).2, fun i hi => h.vals k i (by omega) hk hi (by omega)⟩⟩, h.lt⟩
theorem Tab.mono {w w' : World} {g : Nat} {a b : List ByteArray} (h : Tab w g a b) (hb : Below w.heap.size w w') : Tab w' g a b := by
  obtain ⟨⟨r, h1⟩, h2⟩ := h
  refine ⟨⟨r, fun k hk => ?_⟩, Nat.lt_of_lt_of_le h2 hb.size⟩
  obtain ⟨k1, k2, k3⟩ := h1 k hk
  exact ⟨by rw [hb.cell (p := ⟨g, k, none⟩) h2, k1], Nat.lt_of_lt_of_le k2 hb.size, fun i hi => by rw [hb.cell (p := ⟨r k, i, none⟩) k2, k3 i hi]⟩
/-- a column's cells -/
theorem Tab.col {w : World} {g : Nat} {a b : List ByteArray} (h : Tab w g a b) {k : Nat} (hk : k ≤ b.length) : ∃ q, w.cell? ⟨g, k, none⟩ = some (.slice (some ⟨q, 0, none⟩) (a.length + 1) (a.length + 1)) ∧ q < w.heap.size ∧
    ∀ i, i ≤ a.length → w.cell? ⟨q, i, none⟩ = some (.int .i64 (tv a b i k : Nat)) := by
  obtain ⟨⟨r, h1⟩, -⟩ := h
  exact ⟨r k, h1 k hk⟩
def TabPost (a b : List ByteArray) (w : World) (e : Ending) (w' : World) : Prop :=
  ∃ g, e = .returned (.slice (some ⟨g, 0, none⟩) (b.length + 1) (b.length + 1)) ∧ Tab w' g a b ∧ w.heap.size ≤ g ∧ Below w.heap.size w w'
end Go.Proofs.YtcheggdfcdokiaaDoor
namespace Go.Proofs.YtcheggdfcdokiaaDoor
open Go.RowKit

end Go.Proofs.YtcheggdfcdokiaaDoor
