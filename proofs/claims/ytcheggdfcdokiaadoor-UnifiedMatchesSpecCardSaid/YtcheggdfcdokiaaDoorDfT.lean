
/-
  The program's commonLengths, walked: a row of the table per line of the first text.
-/
import Derived.Test.YtcheggdfcdokiaaDoorDifM
import Derived.IntWalk
import Derived.StillTailTactics
namespace Go.Proofs.YtcheggdfcdokiaaDoor
open Go.RowKit
set_option maxRecDepth 4000

theorem tv_same {a b : List ByteArray} {i j : Nat} (hi : i < a.length) (hj : j < b.length) (h : a[i] = b[j]) : tv a b i j = tv a b (i + 1) (j + 1) + 1 := by
  unfold tv
  rw [List.drop_eq_getElem_cons hi, List.drop_eq_getElem_cons hj, h, Dif.lcs_same]
theorem tv_other {a b : List ByteArray} {i j : Nat} (hi : i < a.length) (hj : j < b.length) (h : a[i] ≠ b[j]) : tv a b i j = max (tv a b (i + 1) j) (tv a b i (j + 1)) := by
  unfold tv
  conv => lhs; rw [List.drop_eq_getElem_cons hi, List.drop_eq_getElem_cons hj, Dif.lcs_other h]
  rw [← List.drop_eq_getElem_cons hi, ← List.drop_eq_getElem_cons hj]

/-- the rows while they are made: those below I are there -/
structure Rn (w : World) (g : Nat) (a b : List ByteArray) (I : Nat) (r : Nat → Nat) : Prop where
  rows : ∀ k, k < I → w.cell? ⟨g, k, none⟩ = some (.slice (some ⟨r k, 0, none⟩) (b.length + 1) (b.length + 1))
  far : ∀ k, k < I → g < r k ∧ r k < w.heap.size
  apart : ∀ k k', k < k' → k' < I → r k ≠ r k'
  zero : ∀ k j, k < I → j ≤ b.length → w.cell? ⟨r k, j, none⟩ = some (.int .i64 0)
  frz : ∀ k j, k < I → j ≤ b.length → w.frozen? ⟨r k, j, none⟩ = false
  low : ∀ k, I ≤ k → k ≤ a.length → w.cell? ⟨g, k, none⟩ = some (.slice none 0 0)
  gfrz : ∀ k, k ≤ a.length → w.frozen? ⟨g, k, none⟩ = false
  lt : g < w.heap.size
theorem Rn.new (w : World) (a b : List ByteArray) (t : TypeId) (r : Nat → Nat) : Rn (w.alloc (.cells (zr (.slice none 0 0) (a.length + 1)) t (0, 0))) w.heap.size a b 0 r := by
  refine ⟨fun k h => by omega, fun k h => by omega, fun k k' h1 h2 => by omega, fun k j h => by omega, fun k j h => by omega, fun k h1 h2 => zr_cell _ _ _ _ _ (by omega), fun k h => ?_, by rw [World.size_alloc]; omega⟩
  rw [World.frozen?_alloc_mark]; rfl
theorem Rn.step {w : World} {g : Nat} {a b : List ByteArray} {I : Nat} {r : Nat → Nat} (h : Rn w g a b I r) (hI : I ≤ a.length) (t : TypeId) :
    Rn ((w.alloc (.cells (zr (.int .i64 0) (b.length + 1)) t (0, 0))).setCell ⟨g, I, none⟩ (.slice (some ⟨w.heap.size, 0, none⟩) (b.length + 1) (b.length + 1))) g a b (I + 1) (fun k => if k = I then w.heap.size else r k) := by
  have hg := h.lt
  have old : ∀ (x y : Nat), x < w.heap.size → (⟨x, y, none⟩ : Addr) ≠ ⟨g, I, none⟩ → ((w.alloc (.cells (zr (.int .i64 0) (b.length + 1)) t (0, 0))).setCell ⟨g, I, none⟩ (.slice (some ⟨w.heap.size, 0, none⟩) (b.length + 1) (b.length + 1))).cell? ⟨x, y, none⟩ = w.cell? ⟨x, y, none⟩ := by
    intro x y hx hne
    rw [World.cell?_setCell_other (h := hne.symm)]
    exact ((Below.refl w.heap.size w).alloc (Nat.le_refl _) _).cell (p := ⟨x, y, none⟩) hx
  have oldf : ∀ (x y : Nat), x < w.heap.size → ((w.alloc (.cells (zr (.int .i64 0) (b.length + 1)) t (0, 0))).setCell ⟨g, I, none⟩ (.slice (some ⟨w.heap.size, 0, none⟩) (b.length + 1) (b.length + 1))).frozen? ⟨x, y, none⟩ = w.frozen? ⟨x, y, none⟩ := by
    intro x y hx
    rw [World.frozen?_setCell]
    exact ((Below.refl w.heap.size w).alloc (Nat.le_refl _) _).frozen (p := ⟨x, y, none⟩) hx
  refine ⟨fun k hk => ?_, fun k hk => ?_, fun k k' h1 h2 => ?_, fun k j hk hj => ?_, fun k j hk hj => ?_, fun k h1 h2 => ?_, fun k hk => ?_, ?_⟩
  · by_cases e : k = I
    · subst e
      rw [if_pos rfl]
      refine World.cell?_setCell_same _ _ _ (?_ : _ = some (.slice none 0 0))
      rw [← h.low k (Nat.le_refl _) hI]
      exact ((Below.refl w.heap.size w).alloc (Nat.le_refl _) _).cell (p := ⟨g, k, none⟩) hg
    · rw [if_neg e, old _ _ hg (by intro e'; cases e'; exact e rfl), h.rows k (by omega)]
  · rw [World.size_setCell, World.size_alloc]
    by_cases e : k = I
    · rw [if_pos e]; omega
    · rw [if_neg e]; have := h.far k (by omega); omega
  · by_cases e : k' = I
    · rw [if_neg (by omega), if_pos e]; have := h.far k (by omega); omega
    · rw [if_neg (by omega), if_neg e]; exact h.apart k k' h1 (by omega)
  · by_cases e : k = I
    · rw [if_pos e, World.cell?_setCell_other (h := by intro e'; cases e'; omega)]
      exact zr_cell _ _ _ _ _ (by omega)
    · have := h.far k (by omega)
      rw [if_neg e, old _ _ this.2 (by intro e'; cases e'; omega), h.zero k j (by omega) hj]
  · by_cases e : k = I
    · rw [if_pos e, World.frozen?_setCell, World.frozen?_alloc_mark]; rfl
    · have := h.far k (by omega)
      rw [if_neg e, oldf _ _ this.2, h.frz k j (by omega) hj]
  · rw [old _ _ hg (by intro e'; cases e'; omega), h.low k (by omega) h2]
  · rw [oldf _ _ hg, h.gfrz k hk]
  · rw [World.size_setCell, World.size_alloc]; omega

/-- the table while it is filled: rows above i are done, row i from index J on -/
structure Tr (w : World) (g : Nat) (a b : List ByteArray) (i J : Nat) (r : Nat → Nat) : Prop where
  rows : ∀ k, k ≤ a.length → w.cell? ⟨g, k, none⟩ = some (.slice (some ⟨r k, 0, none⟩) (b.length + 1) (b.length + 1))
  far : ∀ k, k ≤ a.length → g < r k ∧ r k < w.heap.size
  apart : ∀ k k', k < k' → k' ≤ a.length → r k ≠ r k'
  vals : ∀ k j, k ≤ a.length → j ≤ b.length → i ≤ k → (k = i → J ≤ j) → w.cell? ⟨r k, j, none⟩ = some (.int .i64 (tv a b k j : Nat))
  zero : ∀ k j, k ≤ a.length → j ≤ b.length → k ≤ i → (k = i → j < J) → w.cell? ⟨r k, j, none⟩ = some (.int .i64 0)
  frz : ∀ k j, k ≤ a.length → j ≤ b.length → w.frozen? ⟨r k, j, none⟩ = false
  lt : g < w.heap.size
theorem Rn.done {w : World} {g : Nat} {a b : List ByteArray} {I : Nat} {r : Nat → Nat} (h : Rn w g a b I r) (hI : I = a.length + 1) : Tr w g a b a.length 0 r := by
  subst hI
  refine ⟨fun k hk => h.rows k (by omega), fun k hk => h.far k (by omega), fun k k' h1 h2 => h.apart k k' h1 (by omega), fun k j h1 h2 h3 h4 => ?_, fun k j h1 h2 h3 h4 => h.zero k j (by omega) h2, fun k j h1 h2 => h.frz k j (by omega) h2, h.lt⟩
  rw [h.zero k j (by omega) h2, tv_hi a b k j (by omega)]; rfl
theorem Tr.next {w : World} {g : Nat} {a b : List ByteArray} {i : Nat} {r : Nat → Nat} (h : Tr w g a b (i + 1) 0 r) : Tr w g a b i b.length r := by
  refine ⟨h.rows, h.far, h.apart, fun k j h1 h2 h3 h4 => ?_, fun k j h1 h2 h3 h4 => h.zero k j h1 h2 (by omega) (by omega), h.frz, h.lt⟩
  by_cases e : k = i
  · have := h4 e
    rw [h.zero k j h1 h2 (by omega) (by omega), tv_hi' a b k j (by omega)]; rfl
  · exact h.vals k j h1 h2 (by omega) (by omega)
theorem Tr.step {w : World} {g : Nat} {a b : List ByteArray} {i j : Nat} {r : Nat → Nat} (h : Tr w g a b i (j + 1) r) (hi : i ≤ a.length) (hj : j ≤ b.length) :
    Tr (w.setCell ⟨r i, j, none⟩ (.int .i64 (tv a b i j : Nat))) g a b i j r := by
  have hz := h.zero i j hi hj (Nat.le_refl _) (fun _ => by omega)
  have fi := h.far i hi
  have ap : ∀ k, k ≤ a.length → k ≠ i → r k ≠ r i := fun k hk hne => by
    rcases Nat.lt_or_gt_of_ne hne with h' | h'
    · exact h.apart k i h' hi
    · exact (h.apart i k h' hk).symm
  refine ⟨fun k hk => ?_, fun k hk => ?_, h.apart, fun k j' h1 h2 h3 h4 => ?_, fun k j' h1 h2 h3 h4 => ?_, fun k j' h1 h2 => ?_, ?_⟩
  · rw [World.cell?_setCell_other (h := by intro e; cases e; omega), h.rows k hk]
  · rw [World.size_setCell]; exact h.far k hk
  · by_cases e : k = i
    · subst e
      by_cases e2 : j' = j
      · subst e2; exact World.cell?_setCell_same _ _ _ hz
      · rw [World.cell?_setCell_other (h := by intro e; cases e; exact e2 rfl), h.vals k j' h1 h2 h3 (fun _ => by have := h4 rfl; omega)]
    · rw [World.cell?_setCell_other (h := fun e' => ap k h1 e (Addr.mk.inj e').1.symm), h.vals k j' h1 h2 h3 (fun e' => (e e').elim)]
  · by_cases e : k = i
    · subst e
      have := h4 rfl
      rw [World.cell?_setCell_other (h := by intro e; cases e; omega), h.zero k j' h1 h2 h3 (fun _ => by omega)]
    · rw [World.cell?_setCell_other (h := fun e' => ap k h1 e (Addr.mk.inj e').1.symm), h.zero k j' h1 h2 h3 (fun e' => (e e').elim)]
  · rw [World.frozen?_setCell]; exact h.frz k j' h1 h2
  · rw [World.size_setCell]; exact h.lt
theorem Tr.drewN {w : World} {g : Nat} {a b : List ByteArray} {i J : Nat} {r : Nat → Nat} (h : Tr w g a b i J r) (n : Nat) : Tr (w.drewN n) g a b i J r :=
  ⟨h.rows, h.far, h.apart, h.vals, h.zero, h.frz, h.lt⟩

/-- the table by rows, done: its blocks lie in [lo, hi) -/
structure TabR (w : World) (g : Nat) (a b : List ByteArray) (lo hi : Nat) : Prop where
  rows : ∃ r : Nat → Nat, ∀ k, k ≤ a.length → w.cell? ⟨g, k, none⟩ = some (.slice (some ⟨r k, 0, none⟩) (b.length + 1) (b.length + 1)) ∧ lo ≤ r k ∧ r k < hi ∧
    ∀ j, j ≤ b.length → w.cell? ⟨r k, j, none⟩ = some (.int .i64 (tv a b k j : Nat))
  gl : lo ≤ g
  gh : g < hi
theorem TabR.of {w : World} {g : Nat} {a b : List ByteArray} {r : Nat → Nat} (h : Tr w g a b 0 0 r) : TabR w g a b g w.heap.size :=
  ⟨⟨r, fun k hk => ⟨h.rows k hk, Nat.le_of_lt (h.far k hk).1, (h.far k hk).2, fun j hj => h.vals k j hk hj (by omega) (by omega)⟩⟩, Nat.le_refl _, h.lt⟩
/-- .. in every world that has these blocks -/
theorem TabR.same {w w' : World} {g lo hi : Nat} {a b : List ByteArray} (h : TabR w g a b lo hi) (hb : ∀ k, lo ≤ k → k < hi → w'.heap[k]? = w.heap[k]?) : TabR w' g a b lo hi := by
  obtain ⟨⟨r, h1⟩, h2, h3⟩ := h
  have eq : ∀ x y : Nat, lo ≤ x → x < hi → w'.cell? ⟨x, y, none⟩ = w.cell? ⟨x, y, none⟩ := fun x y hx hy => World.cell?_of_block (a := ⟨x, y, none⟩) (hb x hx hy)
  refine ⟨⟨r, fun k hk => ?_⟩, h2, h3⟩
  obtain ⟨k1, k2, k3, k4⟩ := h1 k hk
  exact ⟨by rw [eq _ _ h2 h3, k1], k2, k3, fun j hj => by rw [eq _ _ k2 k3, k4 j hj]⟩
theorem TabR.wide {w : World} {g lo hi lo' hi' : Nat} {a b : List ByteArray} (h : TabR w g a b lo hi) (h1 : lo' ≤ lo) (h2 : hi ≤ hi') : TabR w g a b lo' hi' := by
  obtain ⟨⟨r, k⟩, h3, h4⟩ := h
  exact ⟨⟨r, fun x hx => ⟨(k x hx).1, by have := (k x hx).2.1; omega, by have := (k x hx).2.2.1; omega, (k x hx).2.2.2⟩⟩, by omega, by omega⟩
theorem TabR.row {w : World} {g lo hi : Nat} {a b : List ByteArray} (h : TabR w g a b lo hi) {k : Nat} (hk : k ≤ a.length) : ∃ q, w.cell? ⟨g, k, none⟩ = some (.slice (some ⟨q, 0, none⟩) (b.length + 1) (b.length + 1)) ∧
    ∀ j, j ≤ b.length → w.cell? ⟨q, j, none⟩ = some (.int .i64 (tv a b k j : Nat)) := by
  obtain ⟨⟨r, h1⟩, -, -⟩ := h
  exact ⟨r k, (h1 k hk).1, (h1 k hk).2.2.2⟩
def TrPost (a b : List ByteArray) (w : World) (e : Ending) (w' : World) : Prop :=
  ∃ g, e = .returned (.slice (some ⟨g, 0, none⟩) (a.length + 1) (a.length + 1)) ∧ TabR w' g a b w.heap.size w'.heap.size ∧ Below w.heap.size w w'

end Go.Proofs.YtcheggdfcdokiaaDoor
