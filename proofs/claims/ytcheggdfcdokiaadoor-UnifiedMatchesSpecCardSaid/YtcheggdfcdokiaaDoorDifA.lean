
/-
  The reference's Align, walked.
-/
import Derived.Test.YtcheggdfcdokiaaDoorDifM
import Derived.Test.YtcheggdfcdokiaaDoorOwn
namespace Go.Proofs.YtcheggdfcdokiaaDoor
open Go.RowKit
set_option maxRecDepth 4000

theorem OwnE.drewN {α : Type} {e : Enc α} {base : Nat} {w : World} {v : Value} {l : List α} (h : OwnE e base w v l) (n : Nat) : OwnE e base (w.drewN n) v l := h
theorem OwnE.alloc {α : Type} {e : Enc α} {base : Nat} {w : World} {v : Value} {l : List α} (h : OwnE e base w v l) (o : Obj) : OwnE e base (w.alloc o) v l := World.ownsRow.alloc h o
theorem OwnE.le {α : Type} {e : Enc α} {base base' : Nat} {w : World} {v : Value} {l : List α} (h : OwnE e base w v l) (hb : base' ≤ base) : OwnE e base' w v l := by
  obtain ⟨h1, h2 | ⟨g, cap, cur, h3, h4, h5⟩⟩ := h
  · exact ⟨h1, .inl h2⟩
  · exact ⟨h1, .inr ⟨g, cap, cur, h3, by omega, h5⟩⟩
/-- the alignment on its way -/
structure AAt (a b : List ByteArray) (i j : Nat) (out : List (Nat × ByteArray)) : Prop where
  hi : i ≤ a.length
  hj : j ≤ b.length
  eq : out ++ Dif.al (a.drop i) (b.drop j) = Dif.al a b
  len : out.length ≤ i + j
theorem AAt.start (a b : List ByteArray) : AAt a b 0 0 [] := ⟨Nat.zero_le _, Nat.zero_le _, rfl, Nat.le_refl _⟩
theorem AAt.keep {a b : List ByteArray} {i j : Nat} {out : List (Nat × ByteArray)} (h : AAt a b i j out) (hi : i < a.length) (hj : j < b.length) (he : a[i] = b[j]) : AAt a b (i + 1) (j + 1) (out ++ [(0, a[i])]) :=
  ⟨hi, hj, by rw [← h.eq, Dif.al_keep a b i j hi hj he, List.append_assoc]; rfl, by have := h.len; rw [List.length_append]; simp; omega⟩
theorem AAt.del {a b : List ByteArray} {i j : Nat} {out : List (Nat × ByteArray)} (h : AAt a b i j out) (hi : i < a.length) (he : ∀ hj : j < b.length, a[i] ≠ b[j] ∧ tv a b i (j + 1) ≤ tv a b (i + 1) j) : AAt a b (i + 1) j (out ++ [(1, a[i])]) :=
  ⟨hi, h.hj, by rw [← h.eq, Dif.al_del a b i j hi he, List.append_assoc]; rfl, by have := h.len; rw [List.length_append]; simp; omega⟩
theorem AAt.ins {a b : List ByteArray} {i j : Nat} {out : List (Nat × ByteArray)} (h : AAt a b i j out) (hj : j < b.length) (he : ∀ hi : i < a.length, a[i] ≠ b[j] ∧ ¬ tv a b i (j + 1) ≤ tv a b (i + 1) j) : AAt a b i (j + 1) (out ++ [(2, b[j])]) :=
  ⟨h.hi, hj, by rw [← h.eq, Dif.al_ins a b i j hj he, List.append_assoc]; rfl, by have := h.len; rw [List.length_append]; simp; omega⟩
theorem AAt.done {a b : List ByteArray} {i j : Nat} {out : List (Nat × ByteArray)} (h : AAt a b i j out) (hi : a.length ≤ i) (hj : b.length ≤ j) : out = Dif.al a b := by
  rw [← h.eq, Dif.al_end a b i j hi hj, List.append_nil]

end Go.Proofs.YtcheggdfcdokiaaDoor
