
/-
  The program's diff.eachKept, walked, with whatever function it is handed.
-/
import Derived.Test.YtcheggdfcdokiaaDoorDfT
import Derived.Test.YtcheggdfcdokiaaDoorDifA
import Derived.Shelf.Abstract
namespace Go.Proofs.YtcheggdfcdokiaaDoor
open Go.RowKit
set_option maxRecDepth 4000

/-- the blocks below A, and those in [B, C), are as they were -/
structure Far (A B C : Nat) (w w' : World) : Prop where
  below : Below A w w'
  mid : ∀ k, B ≤ k → k < C → w'.heap[k]? = w.heap[k]?
theorem Far.refl (A B C : Nat) (w : World) : Far A B C w w := ⟨Below.refl _ _, fun _ _ _ => rfl⟩
theorem Far.trans {A B C : Nat} {w w' w'' : World} (h : Far A B C w w') (k : Far A B C w' w'') : Far A B C w w'' :=
  ⟨h.below.trans k.below, fun x h1 h2 => (k.mid x h1 h2).trans (h.mid x h1 h2)⟩
theorem Far.drewN {A B C : Nat} {w w' : World} (h : Far A B C w w') (n : Nat) : Far A B C w (w'.drewN n) := ⟨below_drewN h.below n, h.mid⟩

/-- what a caller of eachKept owes: I holds of what was walked so far; the function keeps it -/
structure Keeps (f : FuncId) (caps : Array Value) (a b : List ByteArray) (A B : Nat) (w0 w : World) (I : Nat → Nat → Nat → List (Nat × ByteArray) → World → Prop) : Prop where
  start : ∀ w1, Below B w w1 → I w1.heap.size 0 0 [] w1
  draw : ∀ C i j out w1 n, I C i j out w1 → I C i j out (w1.drewN n)
  del : ∀ C i j out w1 (hi : i < a.length), I C i j out w1 → AAt a b i j out → I C (i + 1) j (out ++ [(1, a[i])]) w1
  ins : ∀ C i j out w1 (hj : j < b.length), I C i j out w1 → AAt a b i j out → I C i (j + 1) (out ++ [(2, b[j])]) w1
  keep : ∀ C i j out w1 (hi : i < a.length) (hj : j < b.length), I C i j out w1 → AAt a b i j out → a[i] = b[j] → B ≤ C → C ≤ w1.heap.size → Below A w0 w1 →
    Calls Tryd.prog f (#[.int .i64 (i : Int), .int .i64 (j : Int)] ++ caps) w1 fun e w2 => e = .returned (.tuple #[]) ∧ I C (i + 1) (j + 1) (out ++ [(0, a[i])]) w2 ∧ Far A B C w1 w2

theorem Keeps.finish {f : FuncId} {caps : Array Value} {a b : List ByteArray} {A B : Nat} {w0 w : World} {I : Nat → Nat → Nat → List (Nat × ByteArray) → World → Prop} (H : Keeps f caps a b A B w0 w I) {C : Nat} {w1 : World} :
    ∀ (k i j : Nat) (out : List (Nat × ByteArray)), k = (a.length - i) + (b.length - j) → AAt a b i j out → (a.length ≤ i ∨ b.length ≤ j) → I C i j out w1 → I C a.length b.length (Dif.al a b) w1 := by
  intro k
  induction k with
  | zero =>
    intro i j out hk hA _ h
    have h1 := hA.hi
    have h2 := hA.hj
    have e := hA.done (by omega) (by omega)
    have e1 : i = a.length := by omega
    have e2 : j = b.length := by omega
    subst e e1 e2; exact h
  | succ k ih =>
    intro i j out hk hA ho h
    have h1 := hA.hi
    have h2 := hA.hj
    by_cases hi : i < a.length
    · have hj : ¬ j < b.length := by omega
      exact ih (i + 1) j _ (by omega) (hA.del hi (fun h => (hj h).elim)) (.inr (by omega)) (H.del C i j out w1 hi h hA)
    · have hj : j < b.length := by omega
      exact ih i (j + 1) _ (by omega) (hA.ins hj (fun h => (hi h).elim)) (.inl (by omega)) (H.ins C i j out w1 hj h hA)

end Go.Proofs.YtcheggdfcdokiaaDoor
