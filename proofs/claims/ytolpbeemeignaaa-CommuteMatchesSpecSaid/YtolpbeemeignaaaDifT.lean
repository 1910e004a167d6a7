/-
  The reference's table of longest common subsequences, walked.
-/
import Derived.Test.YtolpbeemeignaaaDifM
import Derived.Test.YtolpbeemeignaaaLinC
import Derived.Laws.MakeOwn
namespace Go.Proofs.Ytolpbeemeignaaa
open Go.RowKit
set_option maxRecDepth 4000

theorem make_row {P : Program} (t e : TypeId) (i : TypeInfo) (z : Value) (ht : P.underlying t = some (.slice e)) (hi : P.info? e = some i) (hz : i.zero = some z)
    (n : Nat) (hbytes : i.bytes * n ≤ 281474976710656) (h63 : n ≤ 9223372036854775807) (w : World) :
    (Instr.makeSlice t (.int .i64 (n : Int)) (.int .i64 (n : Int))).run P w = .ok (.slice (some ⟨w.heap.size, 0, none⟩) n n) (w.alloc (.cells (madeCells z.cells (n * i.size)) e)) := by
  have hb : (i.bytes : Int) * (n : Int) ≤ 281474976710656 := by
    have h : ((i.bytes * n : Nat) : Int) ≤ 281474976710656 := by omega
    rwa [Int.natCast_mul] at h
  have hr := run_make (P := P) w t e i z ht hi hz .i64 .i64 n n (by omega) (by omega) hb (by omega)
  simp only [Int.toNat_natCast] at hr
  exact hr
/-- the cells that 'make' lays, one to an element -/
def zr (v : Value) (n : Nat) : Array Value := madeCells #[v] n
theorem zr_at (v : Value) (n i : Nat) (h : i < n) : (zr v n)[i]? = some v := by
  unfold zr madeCells
  simp [h, Nat.mod_one]
theorem zr_cell (w : World) (v : Value) (n i : Nat) (t : TypeId) (h : i < n) : (w.alloc (.cells (zr v n) t (0, 0))).cell? ⟨w.heap.size, i, none⟩ = some v := by
  rw [World.cell?_alloc_mark]
  simpa using zr_at v n i h
theorem infoI : (Try.prog.info? 3).map (fun i => (i.zero, i.size, i.bytes)) = some (some (.int .i64 0), 1, 8) := by kernel_rfl
theorem infoII : (Try.prog.info? 79).map (fun i => (i.zero, i.size, i.bytes)) = some (some (.slice none 0 0), 1, 24) := by kernel_rfl
theorem mk_ints (n : Nat) (h : n ≤ 1000001) (w : World) : (Instr.makeSlice 79 (.int .i64 (n : Int)) (.int .i64 (n : Int))).run Try.prog w = .ok (.slice (some ⟨w.heap.size, 0, none⟩) n n) (w.alloc (.cells (zr (.int .i64 0) n) 3 (0, 0))) := by
  obtain ⟨i0, hi, hz0, hz1, hz2⟩ := info_parts infoI
  rw [make_row 79 3 i0 _ Try.underlying79 hi hz0 n (by rw [hz2]; omega) (by omega) w, hz1, Nat.mul_one]; rfl
theorem mk_rows (n : Nat) (h : n ≤ 1000001) (w : World) : (Instr.makeSlice 80 (.int .i64 (n : Int)) (.int .i64 (n : Int))).run Try.prog w = .ok (.slice (some ⟨w.heap.size, 0, none⟩) n n) (w.alloc (.cells (zr (.slice none 0 0) n) 79 (0, 0))) := by
  obtain ⟨i0, hi, hz0, hz1, hz2⟩ := info_parts infoII
  rw [make_row 80 79 i0 _ Try.underlying80 hi hz0 n (by rw [hz2]; omega) (by omega) w, hz1, Nat.mul_one]; rfl

/-- a cell of the table -/
def tv (a b : List ByteArray) (i j : Nat) : Nat := Dif.lcs (a.drop i) (b.drop j)
theorem tv_le (a b : List ByteArray) (i j : Nat) : tv a b i j ≤ a.length := by
  have := (Dif.lcs_le (a.drop i) (b.drop j)).1
  rw [List.length_drop] at this
  unfold tv; omega
theorem tv_hi (a b : List ByteArray) (i j : Nat) (h : a.length ≤ i) : tv a b i j = 0 := by
  unfold tv; rw [List.drop_eq_nil_of_le h, Dif.lcs_nil]
theorem tv_hi' (a b : List ByteArray) (i j : Nat) (h : b.length ≤ j) : tv a b i j = 0 := by
  unfold tv; rw [List.drop_eq_nil_of_le h, Dif.lcs_nil']
theorem tv_at (a b : List ByteArray) (i j : Nat) (hi : i < a.length) (hj : j < b.length) : tv a b i j = max (max (tv a b i (j + 1)) (tv a b (i + 1) j)) (if a[i] = b[j] then tv a b (i + 1) (j + 1) + 1 else 0) :=
  Dif.lcs_at a b i j hi hj

/-- the table while it is filled: columns above j are done, column j from index I on -/
structure Tc (w : World) (g : Nat) (a b : List ByteArray) (j I : Nat) (r : Nat → Nat) : Prop where
  cols : ∀ k, j ≤ k → k ≤ b.length → w.cell? ⟨g, k, none⟩ = some (.slice (some ⟨r k, 0, none⟩) (a.length + 1) (a.length + 1))
  far : ∀ k, j ≤ k → k ≤ b.length → g < r k ∧ r k < w.heap.size
  apart : ∀ k, j < k → k ≤ b.length → r k ≠ r j
  vals : ∀ k i, j ≤ k → k ≤ b.length → i ≤ a.length → (k = j → I ≤ i) → w.cell? ⟨r k, i, none⟩ = some (.int .i64 (tv a b i k : Nat))
  zero : j ≤ b.length → ∀ i, i < I → w.cell? ⟨r j, i, none⟩ = some (.int .i64 0)
  frz : j ≤ b.length → ∀ i, i ≤ a.length → w.frozen? ⟨r j, i, none⟩ = false
  low : ∀ k, k < j → k ≤ b.length → w.cell? ⟨g, k, none⟩ = some (.slice none 0 0)
  gfrz : ∀ k, k ≤ b.length → w.frozen? ⟨g, k, none⟩ = false
  lt : g < w.heap.size
theorem Tc.new (w : World) (a b : List ByteArray) (t : TypeId) (r : Nat → Nat) : Tc (w.alloc (.cells (zr (.slice none 0 0) (b.length + 1)) t (0, 0))) w.heap.size a b (b.length + 1) 0 r := by
  refine ⟨fun k h1 h2 => by omega, fun k h1 h2 => by omega, fun k h1 h2 => by omega, fun k i h1 h2 => by omega, fun h => by omega, fun h => by omega, fun k h1 h2 => zr_cell _ _ _ _ _ (by omega), fun k h => ?_, by rw [World.size_alloc]; omega⟩
  rw [World.frozen?_alloc_mark]; rfl
theorem Tc.col {w : World} {g : Nat} {a b : List ByteArray} {j : Nat} {r : Nat → Nat} (h : Tc w g a b (j + 1) 0 r) (hj : j ≤ b.length) (t : TypeId) :
    Tc ((w.alloc (.cells (zr (.int .i64 0) (a.length + 1)) t (0, 0))).setCell ⟨g, j, none⟩ (.slice (some ⟨w.heap.size, 0, none⟩) (a.length + 1) (a.length + 1))) g a b j a.length (fun k => if k = j then w.heap.size else r k) := by
  have hg := h.lt
  have old : ∀ (x y : Nat), x < w.heap.size → (⟨x, y, none⟩ : Addr) ≠ ⟨g, j, none⟩ → ((w.alloc (.cells (zr (.int .i64 0) (a.length + 1)) t (0, 0))).setCell ⟨g, j, none⟩ (.slice (some ⟨w.heap.size, 0, none⟩) (a.length + 1) (a.length + 1))).cell? ⟨x, y, none⟩ = w.cell? ⟨x, y, none⟩ := by
    intro x y hx hne
    rw [World.cell?_setCell_other (h := hne.symm)]
    exact ((Below.refl w.heap.size w).alloc (Nat.le_refl _) _).cell (p := ⟨x, y, none⟩) hx
  have new : ∀ i, i ≤ a.length → ((w.alloc (.cells (zr (.int .i64 0) (a.length + 1)) t (0, 0))).setCell ⟨g, j, none⟩ (.slice (some ⟨w.heap.size, 0, none⟩) (a.length + 1) (a.length + 1))).cell? ⟨w.heap.size, i, none⟩ = some (.int .i64 0) := by
    intro i hi
    rw [World.cell?_setCell_other (h := by intro e; cases e; omega)]
    exact zr_cell _ _ _ _ _ (by omega)
  refine ⟨fun k h1 h2 => ?_, fun k h1 h2 => ?_, fun k h1 h2 => ?_, fun k i h1 h2 h3 h4 => ?_, fun _ i hi => ?_, fun _ i hi => ?_, fun k h1 h2 => ?_, fun k hk => ?_, ?_⟩
  · by_cases e : k = j
    · subst e
      rw [if_pos rfl]
      refine World.cell?_setCell_same _ _ _ (?_ : _ = some (.slice none 0 0))
      rw [← h.low k (by omega) h2]
      exact ((Below.refl w.heap.size w).alloc (Nat.le_refl _) _).cell (p := ⟨g, k, none⟩) hg
    · rw [if_neg e, old _ _ hg (by intro e'; cases e'; exact e rfl), h.cols k (by omega) h2]
  · rw [World.size_setCell, World.size_alloc]
    by_cases e : k = j
    · rw [if_pos e]; omega
    · rw [if_neg e]; have := h.far k (by omega) h2; omega
  · rw [if_neg (by omega), if_pos rfl]; have := h.far k (by omega) h2; omega
  · by_cases e : k = j
    · rw [if_pos e, new i h3]
      have := h4 e
      rw [tv_hi a b i k this]; rfl
    · have := h.far k (by omega) h2
      rw [if_neg e, old _ _ this.2 (by intro e'; cases e'; omega), h.vals k i (by omega) h2 h3 (by intro e'; omega)]
  · rw [if_pos rfl]; exact new i (by omega)
  · rw [if_pos rfl, World.frozen?_setCell, World.frozen?_alloc_mark]; rfl
  · rw [old _ _ hg (by intro e'; cases e'; omega), h.low k (by omega) h2]
  · rw [World.frozen?_setCell, ← h.gfrz k hk]
    exact ((Below.refl w.heap.size w).alloc (Nat.le_refl _) _).frozen (p := ⟨g, k, none⟩) hg
  · rw [World.size_setCell, World.size_alloc]; omega
theorem Tc.last {w : World} {g : Nat} {a b : List ByteArray} {r : Nat → Nat} (h : Tc w g a b b.length a.length r) : Tc w g a b b.length 0 r := by
  refine ⟨h.cols, h.far, h.apart, fun k i h1 h2 h3 h4 => ?_, fun _ i hi => by omega, h.frz, h.low, h.gfrz, h.lt⟩
  have e : k = b.length := by omega
  subst e
  by_cases hi : i < a.length
  · rw [h.zero h2 i hi, tv_hi' a b i _ (Nat.le_refl _)]; rfl
  · exact h.vals _ i h1 h2 h3 (fun _ => by omega)
theorem Tc.last' {w : World} {g : Nat} {a b : List ByteArray} {j : Nat} {r : Nat → Nat} (h : Tc w g a b j a.length r) (hj : j = b.length) : Tc w g a b j 0 r := by
  subst hj; exact h.last
theorem Tc.step {w : World} {g : Nat} {a b : List ByteArray} {j i : Nat} {r : Nat → Nat} (h : Tc w g a b j (i + 1) r) (hj : j ≤ b.length) (hi : i < a.length) :
    Tc (w.setCell ⟨r j, i, none⟩ (.int .i64 (tv a b i j : Nat))) g a b j i r := by
  have hz := h.zero hj i (by omega)
  have fj := h.far j (Nat.le_refl _) hj
  refine ⟨fun k h1 h2 => ?_, fun k h1 h2 => ?_, h.apart, fun k i' h1 h2 h3 h4 => ?_, fun _ i' hi' => ?_, fun hj i' hi' => ?_, fun k h1 h2 => ?_, fun k hk => ?_, ?_⟩
  · rw [World.cell?_setCell_other (h := by intro e; cases e; omega), h.cols k h1 h2]
  · rw [World.size_setCell]; exact h.far k h1 h2
  · by_cases e : k = j
    · subst e
      by_cases e2 : i' = i
      · subst e2; exact World.cell?_setCell_same _ _ _ hz
      · rw [World.cell?_setCell_other (h := by intro e; cases e; exact e2 rfl), h.vals k i' h1 h2 h3 (fun _ => by have := h4 rfl; omega)]
    · rw [World.cell?_setCell_other (h := fun e' => h.apart k (by omega) h2 (Addr.mk.inj e').1.symm), h.vals k i' h1 h2 h3 (fun e' => (e e').elim)]
  · rw [World.cell?_setCell_other (h := by intro e; cases e; omega), h.zero hj i' (by omega)]
  · rw [World.frozen?_setCell]; exact h.frz hj i' hi'
  · rw [World.cell?_setCell_other (h := by intro e; cases e; omega), h.low k h1 h2]
  · rw [World.frozen?_setCell]; exact h.gfrz k hk
  · rw [World.size_setCell]; exact h.lt
theorem Tc.drewN {w : World} {g : Nat} {a b : List ByteArray} {j I : Nat} {r : Nat → Nat} (h : Tc w g a b j I r) (n : Nat) : Tc (w.drewN n) g a b j I r :=
  ⟨h.cols, h.far, h.apart, h.vals, h.zero, h.frz, h.low, h.gfrz, h.lt⟩

/-- the table, done -/
structure Tab (w : World) (g : Nat) (a b : List ByteArray) : Prop where
  rows : ∃ r : Nat → Nat, (∀ k, k ≤ b.length → w.cell? ⟨g, k, none⟩ = some (.slice (some ⟨r k, 0, none⟩) (a.length + 1) (a.length + 1)) ∧ r k < w.heap.size ∧
    ∀ i, i ≤ a.length → w.cell? ⟨r k, i, none⟩ = some (.int .i64 (tv a b i k : Nat)))
  lt : g < w.heap.size
theorem Tab.of {w : World} {g : Nat} {a b : List ByteArray} {r : Nat → Nat} (h : Tc w g a b 0 0 r) : Tab w g a b :=
  ⟨⟨r, fun k hk => ⟨h.cols k (by omega) hk, (h.far k (by omega) hk).2, fun i hi => h.vals k i (by omega) hk hi (by omega)⟩⟩, h.lt⟩
theorem Tab.mono {w w' : World} {g : Nat} {a b : List ByteArray} (h : Tab w g a b) (hb : Below w.heap.size w w') : Tab w' g a b := by
  obtain ⟨⟨r, h1⟩, h2⟩ := h
  refine ⟨⟨r, fun k hk => ?_⟩, Nat.lt_of_lt_of_le h2 hb.size⟩
  obtain ⟨k1, k2, k3⟩ := h1 k hk
  exact ⟨by rw [hb.cell (p := ⟨g, k, none⟩) h2, k1], Nat.lt_of_lt_of_le k2 hb.size, fun i hi => by rw [hb.cell (p := ⟨r k, i, none⟩) k2, k3 i hi]⟩
/-- a column's cells -/
theorem Tab.col {w : World} {g : Nat} {a b : List ByteArray} (h : Tab w g a b) {k : Nat} (hk : k ≤ b.length) : ∃ q, w.cell? ⟨g, k, none⟩ = some (.slice (some ⟨q, 0, none⟩) (a.length + 1) (a.length + 1)) ∧ q < w.heap.size ∧
    ∀ i, i ≤ a.length → w.cell? ⟨q, i, none⟩ = some (.int .i64 (tv a b i k : Nat)) := by
  obtain ⟨⟨r, h1⟩, -⟩ := h
  exact ⟨r k, h1 k hk⟩
def TabPost (a b : List ByteArray) (w : World) (e : Ending) (w' : World) : Prop :=
  ∃ g, e = .returned (.slice (some ⟨g, 0, none⟩) (b.length + 1) (b.length + 1)) ∧ Tab w' g a b ∧ w.heap.size ≤ g ∧ Below w.heap.size w w'
end Go.Proofs.Ytolpbeemeignaaa
