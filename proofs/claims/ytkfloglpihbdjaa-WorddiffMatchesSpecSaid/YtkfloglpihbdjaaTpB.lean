
/-
  The reference's PatchFault, walked.
-/
import Derived.Test.YtkfloglpihbdjaaTpA
import Derived.IntWalk
namespace Go.Proofs.Ytkfloglpihbdjaa
open Go.RowKit
set_option maxRecDepth 4000

/-- a block that holds a hunk -/
structure Hu (w : World) (g : Nat) (z : Int) (o n : Value) : Prop where
  c0 : w.cell? ⟨g, 0, none⟩ = some (.int .i64 z)
  c1 : w.cell? ⟨g, 1, none⟩ = some o
  c2 : w.cell? ⟨g, 2, none⟩ = some n
  lt : g < w.heap.size
theorem Hu.new (w : World) (z : Int) (o n : Value) (t : TypeId) : Hu (w.alloc (.cells #[.int .i64 z, o, n] t (0, 0))) w.heap.size z o n := by
  refine ⟨?_, ?_, ?_, by rw [World.size_alloc]; omega⟩ <;> (rw [World.cell?_alloc_mark]; rfl)
theorem Hu.up {w w' : World} {g : Nat} {z : Int} {o n : Value} (h : Hu w g z o n) (hb : Below w.heap.size w w') : Hu w' g z o n := by
  have hl := h.lt
  exact ⟨by rw [hb.cell (p := ⟨g, 0, none⟩) hl, h.c0], by rw [hb.cell (p := ⟨g, 1, none⟩) hl, h.c1], by rw [hb.cell (p := ⟨g, 2, none⟩) hl, h.c2], Nat.lt_of_lt_of_le hl hb.size⟩
/-- the end of the hunk ahead of k -/
def pvE (hs : List Tp.H) (k : Nat) : Int := if h : 0 < k ∧ k - 1 < hs.length then Tp.en (hs[k - 1]'h.2) else -1
theorem pvE_zero (hs : List Tp.H) : pvE hs 0 = -1 := by unfold pvE; rw [dif_neg (by omega)]
theorem pvE_succ (hs : List Tp.H) (k : Nat) (h : k < hs.length) : pvE hs (k + 1) = Tp.en hs[k] := by unfold pvE; rw [dif_pos ⟨by omega, by omega⟩]; rfl
theorem pf_next (hs : List Tp.H) (k : Nat) (h : k < hs.length) : Tp.pf (hs.drop k) k (pvE hs k) = if Tp.hC (pvE hs k) hs[k] = 0 then Tp.pf (hs.drop (k + 1)) (k + 1) (pvE hs (k + 1)) else (Tp.hC (pvE hs k) hs[k], (k : Int)) := by
  rw [List.drop_eq_getElem_cons h, pvE_succ hs k h]; rfl
/-- how the hunk's fault is found -/
theorem hC_at {prev : Int} {h : Tp.H} (e : h.at' < 0 ∨ 120 < h.at') : Tp.hC prev h = 3 := if_pos e
theorem hC_old {prev : Int} {h : Tp.H} (e : ¬ (h.at' < 0 ∨ 120 < h.at')) (e1 : Lin.vC h.old ≠ 0) : Tp.hC prev h = Lin.vC h.old := by unfold Tp.hC; rw [if_neg e, if_pos e1]
theorem hC_new {prev : Int} {h : Tp.H} (e : ¬ (h.at' < 0 ∨ 120 < h.at')) (e1 : Lin.vC h.old = 0) (e2 : Lin.vC h.new ≠ 0) : Tp.hC prev h = Lin.vC h.new := by unfold Tp.hC; rw [if_neg e, if_neg (by simp [e1]), if_pos e2]
theorem hC_mal {prev : Int} {h : Tp.H} (e : ¬ (h.at' < 0 ∨ 120 < h.at')) (e1 : Lin.vC h.old = 0) (e2 : Lin.vC h.new = 0) (e3 : h.old.length + h.new.length = 0 ∨ h.at' ≤ prev) : Tp.hC prev h = 5 := by unfold Tp.hC; rw [if_neg e, if_neg (by simp [e1]), if_neg (by simp [e2]), if_pos e3]
theorem hC_end {prev : Int} {h : Tp.H} (e : ¬ (h.at' < 0 ∨ 120 < h.at')) (e1 : Lin.vC h.old = 0) (e2 : Lin.vC h.new = 0) (e3 : ¬ (h.old.length + h.new.length = 0 ∨ h.at' ≤ prev)) (e4 : 120 < Tp.en h) : Tp.hC prev h = 3 := by unfold Tp.hC; rw [if_neg e, if_neg (by simp [e1]), if_neg (by simp [e2]), if_neg e3, if_pos e4]
theorem hC_ok {prev : Int} {h : Tp.H} (e : ¬ (h.at' < 0 ∨ 120 < h.at')) (e1 : Lin.vC h.old = 0) (e2 : Lin.vC h.new = 0) (e3 : ¬ (h.old.length + h.new.length = 0 ∨ h.at' ≤ prev)) (e4 : ¬ 120 < Tp.en h) : Tp.hC prev h = 0 := by unfold Tp.hC; rw [if_neg e, if_neg (by simp [e1]), if_neg (by simp [e2]), if_neg e3, if_neg e4]

end Go.Proofs.Ytkfloglpihbdjaa
