
/-
  The program's commonLengths, walked: a row of the table per line of the first text.
-/
import Derived.Test.YtkfloglpihbdjaaDifM
import Derived.IntWalk
import Derived.StillTailTactics
namespace Go.Proofs.Ytkfloglpihbdjaa
open Go.RowKit
set_option maxRecDepth 4000

theorem tv_same {a b : List ByteArray} {i j : Nat} (hi : i < a.length) (hj : j < b.length) (h : a[i] = b[j]) : tv a b i j = tv a b (i + 1) (j + 1) + 1 := by
  unfold tv
  rw [List.drop_eq_getElem_cons hi, List.drop_eq_getElem_cons hj, h, Dif.lcs_same]
theorem tv_other {a b : List ByteArray} {i j : Nat} (hi : i < a.length) (hj : j < b.length) (h : a[i] ≠ b[j]) : tv a b i j = max (tv a b (i + 1) j) (tv a b i (j + 1)) := by
  unfold tv
  conv => lhs; rw [List.drop_eq_getElem_cons hi, List.drop_eq_getElem_cons hj, Dif.lcs_other h]
  rw [← List.drop_eq_getElem_cons hi, ← List.drop_eq_getElem_cons hj]

/-- the rows while they are made: those below I are there -/
structure Rn (w : World) (g : Nat) (a b : List ByteArray) (I : Nat) (r : Nat → Nat) : Prop where
  rows : ∀ k, k < I → w.cell? ⟨g, k, none⟩ = some (.slice (some ⟨r k, 0, none⟩) (b.length + 1) (b.length + 1))
  far : ∀ k, k < I → g < r k ∧ r k < w.heap.size
  apart : ∀ k k', k < k' → k' < I → r k ≠ r k'
  zero : ∀ k j, k < I → j ≤ b.length → w.cell? ⟨r k, j, none⟩ = some (.int .i64 0)
  frz : ∀ k j, k < I → j ≤ b.length → w.frozen? ⟨r k, j, none⟩ = false
  low : ∀ k, I ≤ k → k ≤ a.length → w.cell? ⟨g, k, none⟩ = some (.slice none 0 0)
  gfrz : ∀ k, k ≤ a.length → w.frozen? ⟨g, k, none⟩ = false
  lt : g < w.heap.size
theorem Rn.new (w : World) (a b : List ByteArray) (t : TypeId) (r : Nat → Nat) : Rn (w.alloc (.cells (zr (.slice none 0 0) (a.length + 1)) t (0, 0))) w.heap.size a b 0 r := by
  refine ⟨fun k h => by omega, fun k h => by omega, fun k k' h1 h2 => by omega, fun k j h => by omega, fun k j h => by omega, fun k h1 h2 => zr_cell _ _ _ _ _ (by omega), fun k h => ?_, by rw [World.size_alloc]; omega⟩
  rw [World.frozen?_alloc_mark]; rfl
theorem Rn.step {w : World} {g : Nat} {a b : List ByteArray} {I : Nat} {r : Nat → Nat} (h : Rn w g a b I r) (hI : I ≤ a.length) (t : TypeId) :
    Rn ((w.alloc (.cells (zr (.int .i64 0) (b.length + 1)) t (0, 0))).setCell ⟨g, I, none⟩ (.slice (some ⟨w.heap.size, 0, none⟩) (b.length + 1) (b.length + 1))) g a b (I + 1) (fun k => if k = I then w.heap.size else r k) := by
  have hg := h.lt
  have old : ∀ (x y : Nat), x < w.heap.size → (⟨x, y, none⟩ : Addr) ≠ ⟨g, I, none⟩ → ((w.alloc (.cells (zr (.int .i64 0) (b.length + 1)) t (0, 0))).setCell ⟨g, I, none⟩ (.slice (some ⟨w.heap.size, 0, none⟩) (b.length + 1) (b.length + 1))).cell? ⟨x, y, none⟩ = w.cell? ⟨x, y, none⟩ := by
    intro x y hx hne
    rw [World.cell?_setCell_other (h := hne.symm)]
    exact ((Below.refl w.heap.size w).alloc (Nat.le_refl _) _).cell (p := ⟨x, y, none⟩) hx
  have oldf : ∀ (x y : Nat), x < w.heap.size → ((w.alloc (.cells (zr (.int .i64 0) (b.length + 1)) t (0, 0))).setCell ⟨g, I, none⟩ (.slice (some ⟨w.heap.size, 0, none⟩) (b.length + 1) (b.length + 1))).frozen? ⟨x, y, none⟩ = w.frozen? ⟨x, y, none⟩ := by
    intro x y hx
    rw [World.frozen?_setCell]
    exact ((Below.refl w.heap.size w).alloc (Nat.le_refl _) _).frozen (p := ⟨x, y, none⟩) hx
  refine ⟨fun k hk => ?_, fun k hk => ?_, fun k k' h1 h2 => ?_, fun k j hk hj => ?_, fun k j hk hj => ?_, fun k h1 h2 => ?_, fun k hk => ?_, ?_⟩
  · by_cases e : k = I
    · subst e
      rw [if_pos rfl]
      refine World.cell?_setCell_same _ _ _ (?_ : _ = some (.slice none 0 0))
      rw [← h.low k (Nat.le_refl _) hI]
      exact ((Below.refl w.heap.size w).alloc (Nat.le_refl _) _).cell (p := ⟨g, k, none⟩) hg
    · rw [if_neg e, old _ _ hg (by intro e'; cases e'; exact e rfl), h.rows k (by omega)]
  · rw [World.size_setCell, World.size_alloc]
    by_cases e : k = I
    · rw [if_pos e]; omega
    · rw [if_neg e]; have := h.far k (by omega); omega
  · by_cases e : k' = I
    · rw [if_neg (by omega), if_pos e]; have := h.far k (by omega); omega
    · rw [if_neg (by omega), if_neg e]; exact h.apart k k' h1 (by omega)
  · by_cases e : k = I
    · rw [if_pos e, World.cell?_setCell_other (h := by intro e'; cases e'; omega)]
      exact zr_cell _ _ _ _ _ (by omega)
    · have := h.far k (by omega)
      rw [if_neg e, old _ _ this.2 (by intro e'; cases e'; omega), h.zero k j (by omega) hj]
  · by_cases e : k = I
    · rw [if_pos e, World.frozen?_setCell, World.frozen?_alloc_mark]; rfl
    · have := h.far k (by omega)
      rw [if_neg e, oldf _ _ this.2, h.frz k j (by omega) hj]
  · rw [old _ _ hg (by intro e'; cases e'; omega), h.low k (by omega) h2]
  · rw [oldf _ _ hg, h.gfrz k hk]
  · rw [World.size_setCell, World.size_alloc]; omega

/-- the table while it is filled: rows above i are done, row i from index J on -/
structure Tr (w : World) (g : Nat) (a b : List ByteArray) (i J : Nat) (r : Nat → Nat) : Prop where
  rows : ∀ k, k ≤ a.length → w.cell? ⟨g, k, none⟩ = some (.slice (some ⟨r k, 0, none⟩) (b.length + 1) (b.length + 1))
  far : ∀ k, k ≤ a.length → g < r k ∧ r k < w.heap.size
  apart : ∀ k k', k < k' → k' ≤ a.length → r k ≠ r k'
  vals : ∀ k j, k ≤ a.length → j ≤ b.length → i ≤ k → (k = i → J ≤ j) → w.cell? ⟨r k, j, none⟩ = some (.int .i64 (tv a b k j : Nat))
  zero : ∀ k j, k ≤ a.length → j ≤ b.length → k ≤ i → (k = i → j < J) → w.cell? ⟨r k, j, none⟩ = some (.int .i64 0)
  frz : ∀ k j, k ≤ a.length → j ≤ b.length → w.frozen? ⟨r k, j, none⟩ = false
  lt : g < w.heap.size
theorem Rn.done {w : World} {g : Nat} {a b : List ByteArray} {I : Nat} {r : Nat → Nat} (h : Rn w g a b I r) (hI : I = a.length + 1) : Tr w g a b a.length 0 r := by
  subst hI
  refine ⟨fun k hk => h.rows k (by omega), fun k hk => h.far k (by omega), fun k k' h1 h2 => h.apart k k' h1 (by omega), fun k j h1 h2 h3 h4 => ?_, fun k j h1 h2 h3 h4 => h.zero k j (by omega) h2, fun k j h1 h2 => h.frz k j (by omega) h2, h.lt⟩
  rw [h.zero k j (by omega) h2, tv_hi a b k j (by omega)]; rfl
theorem Tr.next {w : World} {g : Nat} {a b : List ByteArray} {i : Nat} {r : Nat → Nat} (h : Tr w g a b (i + 1) 0 r) : Tr w g a b i b.length r := by
  refine ⟨h.rows, h.far, h.apart, fun k j h1 h2 h3 h4 => ?_, fun k j h1 h2 h3 h4 => h.zero k j h1 h2 (by omega) (by omega), h.frz, h.lt⟩
  by_cases e : k = i
  · have := h4 e
    rw [h.zero k j h1 h2 (by omega) (by omega), tv_hi' a b k j (by omega)]; rfl
  · exact h.vals k j h1 h2 (by omega) (by omega)
theorem Tr.step {w : World} {g : Nat} {a b : List ByteArray} {i j : Nat} {r : Nat → Nat} (h : Tr w g a b i (j + 1) r) (hi : i ≤ a.length) (hj : j ≤ b.length) :
    Tr (w.setCell ⟨r i, j, none⟩ (.int .i64 (tv a b i j : Nat))) g a b i j r := by
  have hz := h.zero i j hi hj (Nat.le_refl _) (fun _ => by omega)
  have fi := h.far i hi
  have ap : ∀ k, k ≤ a.length → k ≠ i → r k ≠ r i := fun k hk hne => by
    rcases Nat.lt_or_gt_of_ne hne with h' | h'
    · exact h.apart k i h' hi
    · exact (h.apart i k h' hk).symm
  refine ⟨fun k hk => ?_, fun k hk => ?_, h.apart, fun k j' h1 h2 h3 h4 => ?_, fun k j' h1 h2 h3 h4 => ?_, fun k j' h1 h2 => ?_, ?_⟩
  · rw [World.cell?_setCell_other (h := by intro e; cases e; omega), h.rows k hk]
  · rw [World.size_setCell]; exact h.far k hk
  · by_cases e : k = i
    · subst e
      by_cases e2 : j' = j
      · subst e2; exact World.cell?_setCell_same _ _ _ hz
      · rw [World.cell?_setCell_other (h := by intro e; cases e; exact e2 rfl), h.vals k j' h1 h2 h3 (fun _ => by have := h4 rfl; omega)]
    · rw [World.cell?_setCell_other (h := fun e' => ap k h1 e (Addr.mk.inj e').1.symm), h.vals k j' h1 h2 h3 (fun e' => (e e').elim)]
  · by_cases e : k = i
    · subst e
      have := h4 rfl
      rw [World.cell?_setCell_other (h := by intro e; cases e; omega), h.zero k j' h1 h2 h3 (fun _ => by omega)]
    · rw [World.cell?_setCell_other (h := fun e' => ap k h1 e (Addr.mk.inj e').1.symm), h.zero k j' h1 h2 h3 (fun e' => (e e').elim)]
  · rw [World.frozen?_setCell]; exact h.frz k j' h1 h2
  · rw [World.size_setCell]; exact h.lt
theorem Tr.drewN {w : World} {g : Nat} {a b : List ByteArray} {i J : Nat} {r : Nat → Nat} (h : Tr w g a b i J r) (n : Nat) : Tr (w.drewN n) g a b i J r :=
  ⟨h.rows, h.far, h.apart, h.vals, h.zero, h.frz, h.lt⟩

/-- the table by rows, done: its blocks lie in [lo, hi) -/
structure TabR (w : World) (g : Nat) (a b : List ByteArray) (lo hi : Nat) : Prop where
  rows : ∃ r : Nat → Nat, ∀ k, k ≤ a.length → w.cell? ⟨g, k, none⟩ = some (.slice (some ⟨r k, 0, none⟩) (b.length + 1) (b.length + 1)) ∧ lo ≤ r k ∧ r k < hi ∧
    ∀ j, j ≤ b.length → w.cell? ⟨r k, j, none⟩ = some (.int .i64 (tv a b k j : Nat))
  gl : lo ≤ g
  gh : g < hi
theorem TabR.of {w : World} {g : Nat} {a b : List ByteArray} {r : Nat → Nat} (h : Tr w g a b 0 0 r) : TabR w g a b g w.heap.size :=
  ⟨⟨r, fun k hk => ⟨h.rows k hk, Nat.le_of_lt (h.far k hk).1, (h.far k hk).2, fun j hj => h.vals k j hk hj (by omega) (by omega)⟩⟩, Nat.le_refl _, h.lt⟩
/-- .. in every world that has these blocks -/
theorem TabR.same {w w' : World} {g lo hi : Nat} {a b : List ByteArray} (h : TabR w g a b lo hi) (hb : ∀ k, lo ≤ k → k < hi → w'.heap[k]? = w.heap[k]?) : TabR w' g a b lo hi := by
  obtain ⟨⟨r, h1⟩, h2, h3⟩ := h
  have eq : ∀ x y : Nat, lo ≤ x → x < hi → w'.cell? ⟨x, y, none⟩ = w.cell? ⟨x, y, none⟩ := fun x y hx hy => World.cell?_of_block (a := ⟨x, y, none⟩) (hb x hx hy)
  refine ⟨⟨r, fun k hk => ?_⟩, h2, h3⟩
  obtain ⟨k1, k2, k3, k4⟩ := h1 k hk
  exact ⟨by rw [eq _ _ h2 h3, k1], k2, k3, fun j hj => by rw [eq _ _ k2 k3, k4 j hj]⟩
theorem TabR.wide {w : World} {g lo hi lo' hi' : Nat} {a b : List ByteArray} (h : TabR w g a b lo hi) (h1 : lo' ≤ lo) (h2 : hi ≤ hi') : TabR w g a b lo' hi' := by
  obtain ⟨⟨r, k⟩, h3, h4⟩ := h
  exact ⟨⟨r, fun x hx => ⟨(k x hx).1, by have := (k x hx).2.1; omega, by have := (k x hx).2.2.1; omega, (k x hx).2.2.2⟩⟩, by omega, by omega⟩
theorem TabR.row {w : World} {g lo hi : Nat} {a b : List ByteArray} (h : TabR w g a b lo hi) {k : Nat} (hk : k ≤ a.length) : ∃ q, w.cell? ⟨g, k, none⟩ = some (.slice (some ⟨q, 0, none⟩) (b.length + 1) (b.length + 1)) ∧
    ∀ j, j ≤ b.length → w.cell? ⟨q, j, none⟩ = some (.int .i64 (tv a b k j : Nat)) := by
  obtain ⟨⟨r, h1⟩, -, -⟩ := h
  exact ⟨r k, (h1 k hk).1, (h1 k hk).2.2.2⟩
def TrPost (a b : List ByteArray) (w : World) (e : Ending) (w' : World) : Prop :=
  ∃ g, e = .returned (.slice (some ⟨g, 0, none⟩) (a.length + 1) (a.length + 1)) ∧ TabR w' g a b w.heap.size w'.heap.size ∧ Below w.heap.size w w'

set_option maxRecDepth 100000 in
set_option maxHeartbeats 4000000 in
theorem lengths_any (p q : Option Addr) (a b : List ByteArray) (n m cap cap' : Nat) (w : World) (hn : n = a.length) (hm : m = b.length) (hp : Sts w p a) (hq : Sts w q b) (ha : a.length ≤ 1000000) (hb : b.length ≤ 1000000) :
    Calls Try.prog 45 #[.slice p n cap, .slice q m cap'] w (TrPost a b w) := by
  subst hn hm
  have HP := Lib.hid hp
  have HQ := Lib.hid hq
  clear hp hq
  have m1 := fun w => mk_rows (a.length + 1) (by omega) w
  have m2 := fun w => mk_ints (b.length + 1) (by omega) w
  have c1 : ((a.length + 1 : Nat) : Int) = (a.length : Int) + 1 := by omega
  have c2 : ((b.length + 1 : Nat) : Int) = (b.length : Int) + 1 := by omega
  rw [c1] at m1
  rw [c2] at m2
  clear c1 c2
  have T0 := Lib.hid (Rn.new w a b 71 (fun _ => 0))
  have U0 := Lib.hid ((Below.refl w.heap.size w).alloc (Nat.le_refl _) (.cells (zr (.slice none 0 0) (a.length + 1)) 71 (0, 0)))
  go_enter Try.func45, Try.ntmps45
  go_wp2
  go_loopw [15] (fun i wr => ∃ (I : Nat) (r : Nat → Nat), I ≤ a.length + 1 ∧ i = .int .i64 I ∧ Hid (Rn wr w.heap.size a b I r) ∧ Hid (Below w.heap.size w wr)) (fun i _ => a.length + 1 - (intOf i).toNat)
  case atStart => exact ⟨0, _, Nat.zero_le _, rfl, T0, U0⟩
  case round =>
    obtain ⟨I, r, hI, rfl, HT, HU⟩ := hrel
    clear T0 U0
    have b0 : (0 : Int) ≤ (I : Int) := by omega
    by_cases hlt : I < a.length + 1
    · have g0 : decide ((I : Int) < (a.length : Int) + 1) = true := by rw [decide_eq_true_iff]; omega
      have b1 : (I : Int) < (a.length : Int) + 1 := by omega
      have lo := HT.out.low I (Nat.le_refl _) (by omega)
      have fz := HT.out.gfrz I (by omega)
      have lt := HT.out.lt
      have s1 : (wr.alloc (.cells (zr (.int .i64 0) (b.length + 1)) 3 (0, 0))).cell? ⟨w.heap.size, I, none⟩ = some (.slice none 0 0) := by
        rw [← lo]; exact ((Below.refl wr.heap.size wr).alloc (Nat.le_refl _) _).cell (p := ⟨w.heap.size, I, none⟩) lt
      have s2 : (wr.alloc (.cells (zr (.int .i64 0) (b.length + 1)) 3 (0, 0))).frozen? ⟨w.heap.size, I, none⟩ = false := by
        rw [← fz]; exact ((Below.refl wr.heap.size wr).alloc (Nat.le_refl _) _).frozen (p := ⟨w.heap.size, I, none⟩) lt
      have T1 := Lib.hid (HT.out.step (by omega) 3)
      have U1 := Lib.hid ((HU.out.alloc HU.out.size (.cells (zr (.int .i64 0) (b.length + 1)) 3 (0, 0))).setCell (p := ⟨w.heap.size, I, none⟩) (Nat.le_refl w.heap.size) (.slice (some ⟨wr.heap.size, 0, none⟩) (b.length + 1) (b.length + 1)))
      clear lo fz lt
      go_wp2_with fail
      go_roundw
      case rel => exact ⟨I + 1, _, by omega, by go_num, T1, U1⟩
      case measure => first | (simp [intOf]; done) | (simp [intOf]; omega)
    · have g0 : decide ((I : Int) < (a.length : Int) + 1) = false := by rw [decide_eq_false_iff_not]; omega
      have T1 := Lib.hid (HT.out.done (by omega))
      clear HT hlt m1 m2
      go_wp2_with fail
      go_loopw [7] (fun i wr => ∃ I : Nat, I ≤ a.length ∧ i = .int .i64 ((I : Int) - 1) ∧ Hid (Tr wr w.heap.size a b I 0 r) ∧ Hid (Below w.heap.size w wr)) (fun i _ => (intOf i + 1).toNat)
      case atStart => exact ⟨a.length, Nat.le_refl _, by go_num, T1, HU⟩
      case round =>
        clear T1 HU g0 b0 hI
        obtain ⟨I, hI, rfl, HT, HU⟩ := hrel
        by_cases h0 : I = 0
        · subst h0
          have g0 : decide ((0 : Int) ≤ ((0 : Nat) : Int) - 1) = false := by decide
          go_wp2_with fail
          go_returns
          exact ⟨_, rfl, TabR.of HT.out, HU.out⟩
        · obtain ⟨i, rfl⟩ : ∃ i, I = i + 1 := ⟨I - 1, by omega⟩
          have e1 : (((i + 1 : Nat) : Int) - 1) = (i : Int) := by omega
          rw [e1]
          clear h0
          have hi : i < a.length := by omega
          have g0 : decide ((0 : Int) ≤ (i : Int)) = true := by rw [decide_eq_true_iff]; omega
          have b0 : (0 : Int) ≤ (i : Int) := by omega
          have b1 : (i : Int) < (a.length : Int) + 1 := by omega
          have b2 : (i : Int) + 1 < (a.length : Int) + 1 := by omega
          have b3 : (i : Int) < (a.length : Int) := by omega
          have T1 := Lib.hid HT.out.next
          clear HT
          go_wp2_with fail
          go_loopw [8] (fun j w1 => ∃ J : Nat, J ≤ b.length ∧ j = .int .i64 ((J : Int) - 1) ∧ Hid (Tr w1 w.heap.size a b i J r) ∧ Hid (Below w.heap.size w w1)) (fun j _ => (intOf j + 1).toNat)
          case atStart => exact ⟨b.length, Nat.le_refl _, by go_num, T1, HU⟩
          case round =>
            clear T1 HU
            obtain ⟨J, hJ, rfl, HT, HU⟩ := hrel
            by_cases h0 : J = 0
            · subst h0
              have g1 : decide ((0 : Int) ≤ ((0 : Nat) : Int) - 1) = false := by decide
              clear e1
              go_wp2_with fail
              go_roundw
              case rel => exact ⟨i, by omega, by go_num, HT, HU⟩
              case measure => first | (simp [intOf]; done) | (simp [intOf]; omega)
            · obtain ⟨j, rfl⟩ : ∃ j, J = j + 1 := ⟨J - 1, by omega⟩
              have e1 : (((j + 1 : Nat) : Int) - 1) = (j : Int) := by omega
              rw [e1]
              clear h0
              have hj : j < b.length := by omega
              have g1 : decide ((0 : Int) ≤ (j : Int)) = true := by rw [decide_eq_true_iff]; omega
              obtain ⟨k1, -⟩ := HT.out.far i (by omega)
              have a0 := HT.out.rows (i + 1) (by omega)
              have a1 := HT.out.rows i (by omega)
              have a2 := HT.out.vals (i + 1) j (by omega) (by omega) (by omega) (by omega)
              have a3 := HT.out.vals (i + 1) (j + 1) (by omega) (by omega) (by omega) (by omega)
              have a4 := HT.out.vals i (j + 1) (by omega) (by omega) (by omega) (by omega)
              have a5 := HT.out.zero i j (by omega) (by omega) (by omega) (by omega)
              have a6 := HT.out.frz i j (by omega) (by omega)
              have S := fun (nq v : Nat) (hv : v = tv a b i j) => (Lib.hid (by rw [hv]; exact (HT.out.drewN nq).step (Nat.le_of_lt hi) (Nat.le_of_lt hj)) : Hid (Tr ((wr.drewN nq).setCell ⟨r i, j, none⟩ (.int .i64 (v : Nat))) w.heap.size a b i j r))
              have E1 := fun h => Lib.hid (tv_same hi hj h)
              have E2 := fun h => Lib.hid (tv_other hi hj h)
              obtain ⟨p1, hp1⟩ : ∃ p1, p1 = tv a b i (j + 1) := ⟨_, rfl⟩
              obtain ⟨p2, hp2⟩ : ∃ p2, p2 = tv a b (i + 1) j := ⟨_, rfl⟩
              obtain ⟨p3, hp3⟩ : ∃ p3, p3 = tv a b (i + 1) (j + 1) := ⟨_, rfl⟩
              have l1 : p1 ≤ 1000000 := by have := tv_le a b i (j + 1); omega
              have l2 : p2 ≤ 1000000 := by have := tv_le a b (i + 1) j; omega
              have l3 : p3 ≤ 1000000 := by have := tv_le a b (i + 1) (j + 1); omega
              rw [← hp1] at a4 E2
              rw [← hp2] at a2 E2
              rw [← hp3] at a3 E1
              have b4 : (0 : Int) ≤ (j : Int) := by omega
              have b5 : (j : Int) < (b.length : Int) := by omega
              have b6 : (j : Int) < (b.length : Int) + 1 := by omega
              have b7 : (j : Int) + 1 < (b.length : Int) + 1 := by omega
              have b8 : (0 : Int) ≤ (i : Int) + 1 := by omega
              have b9 : (0 : Int) ≤ (j : Int) + 1 := by omega
              have wi : IntKind.i64.wrap ((i : Int) + 1) = (i : Int) + 1 := IntWalk.i64_in _ (by omega)
              have wj : IntKind.i64.wrap ((j : Int) + 1) = (j : Int) + 1 := IntWalk.i64_in _ (by omega)
              have w3 : IntKind.i64.wrap ((p3 : Int) + 1) = (p3 : Int) + 1 := IntWalk.i64_in _ (by omega)
              clear hp1 hp2 hp3
              obtain ⟨bp, op, rfl, hbp, cx⟩ := HP.out.cell hi
              obtain ⟨bq, oq, rfl, hbq, cy⟩ := HQ.out.cell hj
              have h1 : wr.cell? ⟨bp, op + i, none⟩ = some (.string a[i]) := by rw [HU.out.cell (p := ⟨bp, op + i, none⟩) hbp, cx]
              have h2 : wr.cell? ⟨bq, oq + j, none⟩ = some (.string b[j]) := by rw [HU.out.cell (p := ⟨bq, oq + j, none⟩) hbq, cy]
              have e0 : a[i] ≠ b[j] → (a[i].toList == b[j].toList) = false := fun h => tl_false h
              obtain ⟨x, hx⟩ : ∃ x, x = a[i] := ⟨_, rfl⟩
              obtain ⟨y, hy⟩ : ∃ y, y = b[j] := ⟨_, rfl⟩
              rw [← hx] at h1 E1 E2 e0
              rw [← hy] at h2 E1 E2 e0
              have U3 := fun (nq v : Nat) => (Lib.hid ((below_drewN HU.out nq).setCell (p := ⟨r i, j, none⟩) (Nat.le_of_lt k1) (.int .i64 (v : Nat))) : Hid (Below w.heap.size w ((wr.drewN nq).setCell ⟨r i, j, none⟩ (.int .i64 (v : Nat)))))
              clear cx cy hx hy hbp hbq HT HU k1
              by_cases he : x = y
              · have E3 := Lib.hid ((E1 he).out.symm)
                subst he
                clear E1 E2 e0
                go_wp2_with fail
                go_quiet (fail)
                go_wp2_with fail
                refine wp_region_still_tail 16 (by kernel_rfl) (by kernel_rfl) ?_
                change wpStill _ _ ((wr.drewN nq).drewN 1) (fun a' => wpList _ _ _ _ a' ((wr.drewN nq).drewN 1)) _ _
                simp only [List.take_succ_cons, List.take_zero, List.drop_succ_cons, List.drop_zero, World.drewN_drewN]
                repeat still_step
                try refine wpStill_nil ?_
                go_wp2_with fail
                go_roundw
                case rel => exact ⟨j, by omega, by go_num, S _ (p3 + 1) E3.out, U3 _ (p3 + 1)⟩
                case measure => first | (simp [intOf]; done) | (simp [intOf]; omega)
              · have g2 := e0 he
                have E3 := Lib.hid ((E2 he).out.symm)
                clear E1 E2 e0 he
                go_wp2_with fail
                go_quiet (fail)
                go_wp2_with fail
                refine wp_region_still_tail 23 (by kernel_rfl) (by kernel_rfl) ?_
                change wpStill _ _ ((wr.drewN nq).drewN 1) (fun a' => wpList _ _ _ _ a' ((wr.drewN nq).drewN 1)) _ _
                simp only [List.take_succ_cons, List.take_zero, List.drop_succ_cons, List.drop_zero, World.drewN_drewN]
                repeat still_step
                try refine wpStill_nil ?_
                go_wp2_with fail
                go_roundw
                case rel => exact ⟨j, by omega, by go_num, by rw [show max (p2 : Int) (p1 : Int) = ((max p2 p1 : Nat) : Int) by omega]; exact S _ _ E3.out, by rw [show max (p2 : Int) (p1 : Int) = ((max p2 p1 : Nat) : Int) by omega]; exact U3 _ _⟩
                case measure => first | (simp [intOf]; done) | (simp [intOf]; omega)
end Go.Proofs.Ytkfloglpihbdjaa
