
/-
  SameElement; a step of a guarded operation in a drawn region.
-/
import Derived.Test.YtidncnhhjfdifaaSqY
namespace Go.Proofs.Ytidncnhhjfdifaa
open Go.RowKit
set_option maxRecDepth 4000
set_option maxRecDepth 100000 in
theorem sameElement_any (x o : Sq.O) (w : World) : Calls Try.prog 32 #[x.v, o.v] w (BPost (.bool (decide (x.el = o.el))) w) := by
  have up0 := (boxO_up w x).trans ((boxO_up (boxO w x) o).mono (boxO_up w x).size)
  have z1 : (boxO w x).heap.size = w.heap.size + 1 := World.size_alloc _ _
  have O1 := (OpB.new w x).up (boxO_up _ o)
  have O2 := OpB.new (boxO w x) o
  rw [z1] at O2
  obtain ⟨c0, c1, c2, c3, c4, c5, _⟩ := O1
  obtain ⟨d0, d1, d2, d3, d4, d5, _⟩ := O2
  unfold Sq.O.v
  unfold boxO at up0 c0 c1 c2 c3 c4 c5 d0 d1 d2 d3 d4 d5
  clear z1
  by_cases h1 : x.cnt = o.cnt
  · have k1 : (x.cnt == o.cnt) = true := by simpa using h1
    by_cases h2 : x.rep = o.rep
    · have k2 : (x.rep == o.rep) = true := by simpa using h2
      rw [show decide (x.el = o.el) = true from decide_eq_true (by unfold Sq.O.el; rw [h1, h2])]
      clear h1 h2
      go_enter Try.func32, Try.ntmps32
      go_wp2_with fail
      go_returns
      exact ⟨rfl, up0⟩
    · have k2 : (x.rep == o.rep) = false := by simpa using h2
      rw [show decide (x.el = o.el) = false from decide_eq_false (fun e => h2 (congrArg Prod.snd e))]
      clear h1 h2
      go_enter Try.func32, Try.ntmps32
      go_wp2_with fail
      go_returns
      exact ⟨rfl, up0⟩
  · have k1 : (x.cnt == o.cnt) = false := by simpa using h1
    rw [show decide (x.el = o.el) = false from decide_eq_false (fun e => h1 (congrArg Prod.fst e))]
    clear h1
    go_enter Try.func32, Try.ntmps32
    go_wp2_with fail
    go_returns
    exact ⟨rfl, up0⟩
section
variable {P : Program} {Q : Exit → Act → World → Prop}
/-- a guarded operation that is wanted -/
theorem step_mkG {ops : Array Oper} {fr : (Nat → Value) → Act} {C : World → Prop} {S : Nat → Value → World → Prop} {i : Nat} {o : Oper} (ds : List Nat) (hds : (o.after.toList.filter (Region.binds .any)).map (·.on) = ds)
    (hput : ∀ x v, (fr x).put o.dst v = fr (upd x i v))
    (hw : ∀ (x : Nat → Value) (w : World), C w → (∀ d ∈ ds, S d (x d) w) → Region.wanted o (yielded ops (fr x).tmps) = true)
    (h : ∀ (x : Nat → Value) (w : World), C w → (∀ d ∈ ds, S d (x d) w) → ∀ K : Act → World → Prop, (∀ v w', C w' → S i v w' → (∀ j u, j ≠ i → S j u w → S j u w') → K ((fr x).put o.dst v) w') → Oper.wp P o (fr x) w K Q) : StepOK P Q ops fr C S i o := by
  refine ⟨hput, fun x w hC hd K hK => ?_⟩
  have hd' : ∀ d ∈ ds, S d (x d) w := fun d hd' => by
    rw [← hds] at hd'
    obtain ⟨e, he, rfl⟩ := List.mem_map.1 hd'
    obtain ⟨h1, h2⟩ := List.mem_filter.1 he
    exact hd e h1 h2
  rw [if_pos (hw x w hC hd')]
  exact h x w hC hd' K hK
/-- a guarded operation that is not wanted -/
theorem step_mkN {ops : Array Oper} {fr : (Nat → Value) → Act} {C : World → Prop} {S : Nat → Value → World → Prop} {i : Nat} {o : Oper} (ds : List Nat) (hds : (o.after.toList.filter (Region.binds .any)).map (·.on) = ds)
    (hput : ∀ x v, (fr x).put o.dst v = fr (upd x i v))
    (hw : ∀ (x : Nat → Value) (w : World), C w → (∀ d ∈ ds, S d (x d) w) → Region.wanted o (yielded ops (fr x).tmps) = false)
    (hS : ∀ (x : Nat → Value) (w : World), C w → (∀ d ∈ ds, S d (x d) w) → S i undef w) : StepOK P Q ops fr C S i o := by
  refine ⟨hput, fun x w hC hd K hK => ?_⟩
  have hd' : ∀ d ∈ ds, S d (x d) w := fun d hd' => by
    rw [← hds] at hd'
    obtain ⟨e, he, rfl⟩ := List.mem_map.1 hd'
    obtain ⟨h1, h2⟩ := List.mem_filter.1 he
    exact hd e h1 h2
  rw [if_neg (by rw [hw x w hC hd']; decide)]
  exact hK _ _ hC (hS x w hC hd') (fun _ _ _ h => h)
end
end Go.Proofs.Ytidncnhhjfdifaa
