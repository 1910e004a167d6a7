
/-
  The program's diff.Common, walked, and the function that it hands to eachKept.
-/
import Derived.Test.YtcheggdfcdokiaaDoorDfE
import Derived.Test.YtcheggdfcdokiaaDoorDfD
import Derived.Test.YtcheggdfcdokiaaDoorDifK
import Derived.Deep.RegionHeld3
namespace Go.Proofs.YtcheggdfcdokiaaDoor
open Go.RowKit
set_option maxRecDepth 4000

theorem kept_snoc (l : List (Nat × ByteArray)) (k : Nat) (x : ByteArray) : kept (l ++ [(k, x)]) = kept l ++ (if k = 0 then [x] else []) := by
  unfold kept
  rw [List.filter_append, List.map_append]
  congr 1
  by_cases e : k = 0
  · simp [List.filter, e]
  · have : (k == 0) = false := by simpa using e
    rw [if_neg e]; simp [List.filter, this]

/-- a cell that is there is there behind a new block -/
theorem cell_up {w : World} {a : Addr} {v : Value} (h : w.cell? a = some v) (o : Obj) : (w.alloc o).cell? a = some v := by
  rw [← h]; exact ((Below.refl w.heap.size w).alloc (Nat.le_refl _) o).cell (cell_block_lt h)
theorem frozen_up {w : World} {a : Addr} {v : Value} (h : w.cell? a = some v) (hf : w.frozen? a = false) (o : Obj) : (w.alloc o).frozen? a = false := by
  rw [← hf]; exact ((Below.refl w.heap.size w).alloc (Nat.le_refl _) o).frozen (cell_block_lt h)

/-- what holds between two calls of the function: its slice lies in block g, the first text's in block ga -/
structure CI (g ga : Nat) (V : Value) (B C : Nat) (l : List ByteArray) (w : World) : Prop where
  own : ∃ v, w.cell? ⟨g, 0, none⟩ = some v ∧ OwnE strE C w v l
  fr : w.frozen? ⟨g, 0, none⟩ = false
  ca : w.cell? ⟨ga, 0, none⟩ = some V
  hB : B ≤ C
  hC : C ≤ w.heap.size

theorem Flt.same {w w' : World} {g : Nat} {c i : Int} (h : Flt w g c i) (hb : w'.heap[g]? = w.heap[g]?) : Flt w' g c i := by
  have e : ∀ o, w'.cell? ⟨g, o, none⟩ = w.cell? ⟨g, o, none⟩ := fun o => World.cell?_of_block (a := ⟨g, o, none⟩) hb
  have f : ∀ o, w'.frozen? ⟨g, o, none⟩ = w.frozen? ⟨g, o, none⟩ := fun o => World.frozen?_of_block (a := ⟨g, o, none⟩) hb
  have c0 : w'.cell? ⟨g, 0, none⟩ = some (.int .i64 c) := by rw [e, h.c0]
  exact ⟨c0, by rw [e, h.c1], by rw [f, h.f0], by rw [f, h.f1], cell_block_lt c0⟩

/-- what Common returns -/
noncomputable def kD (a b : List ByteArray) : List ByteArray := if okD a b then Dif.kp a b else []
def KcPost (a b : List ByteArray) (w : World) (e : Ending) (w' : World) : Prop := ∃ v, e = .returned (.tuple #[v, .agg #[.int .i64 (tC a b), .int .i64 (tI a b)]]) ∧ OwnE strE w.heap.size w' v (kD a b) ∧ Below w.heap.size w w'

end Go.Proofs.YtcheggdfcdokiaaDoor
