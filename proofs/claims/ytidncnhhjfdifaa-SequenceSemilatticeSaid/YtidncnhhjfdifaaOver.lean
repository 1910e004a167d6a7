
/-
  Regions that draw their order and hold calls that lay new blocks alone: walked once, over the class of worlds that are as this one below its heap's size.
-/
import Derived.Test.YtidncnhhjfdifaaMem
import Derived.Deep.Quiet
import Derived.Deep.QuietTactic
import Derived.BigQuiet
namespace Go.Proofs.Ytidncnhhjfdifaa
open Go.RowKit
set_option maxRecDepth 4000

/-- w, where it is as W below W's heap's size; else W -/
noncomputable def over (W w : World) : World := @ite World (Below W.heap.size W w) (Classical.propDecidable _) w W
theorem over_of {W w : World} (h : Below W.heap.size W w) : over W w = w := by unfold over; rw [if_pos h]
theorem over_below (W w : World) : Below W.heap.size W (over W w) := by
  by_cases h : Below W.heap.size W w
  · rw [over_of h]; exact h
  · unfold over; rw [if_neg h]; exact Below.refl _ _
theorem over_cell {W : World} {b o : Nat} {v : Value} (hb : b < W.heap.size) (h : W.cell? ⟨b, o, none⟩ = some v) (w : World) : (over W w).cell? ⟨b, o, none⟩ = some v := by
  rw [(over_below W w).cell (p := ⟨b, o, none⟩) hb, h]
theorem over_lit {id : Nat} {Q : Exit → Act → World → Prop} {a : Act} {w : World} {l : List Oper} (hm : Try.prog.follows .mixedOrders = true) (hB : Region.lexB .any l.toArray = true)
    (h : wpQuiet Try.prog l.toArray (fun w' => ∃ n, w' = over w n) (fun a' => ∀ w', (∃ n, w' = over w n) → Q .normal a' w') l a) : (Code.region id l.toArray true).wp Try.prog Q a w :=
  wp_region_quiet (C := fun w' => ∃ n, w' = over w n) hm hB ⟨_, (over_of ((Below.refl _ w).drew)).symm⟩ (by simpa using h)
theorem over_lit2 {id : Nat} {Q : Exit → Act → World → Prop} {a : Act} {w : World} {l : List Oper} (b o b' o' : Nat) (v v' : Value) (hm : Try.prog.follows .mixedOrders = true) (hB : Region.lexB .any l.toArray = true)
    (hb : b < w.heap.size) (hc : w.cell? ⟨b, o, none⟩ = some v) (hb' : b' < w.heap.size) (hc' : w.cell? ⟨b', o', none⟩ = some v')
    (h : (∀ n, (over w n).cell? ⟨b, o, none⟩ = some v) → (∀ n, (over w n).cell? ⟨b', o', none⟩ = some v') → wpQuiet Try.prog l.toArray (fun w' => ∃ n, w' = over w n) (fun a' => ∀ w', (∃ n, w' = over w n) → Q .normal a' w') l a) : (Code.region id l.toArray true).wp Try.prog Q a w :=
  over_lit hm hB (h (over_cell hb hc) (over_cell hb' hc'))
theorem over_call {f : FuncId} {args : Array Value} {W w1 : World} {v : Value} (h : Calls Try.prog f args (over W w1) (BPost v (over W w1))) :
    Calls Try.prog f args (over W w1) fun e w'' => e = .returned v ∧ ∃ n, w'' = over W n :=
  h.mono fun _ w'' ⟨he, hb⟩ => ⟨he, w'', (over_of ((over_below W w1).trans (hb.mono (over_below W w1).size))).symm⟩
theorem over_quiet {f : FuncId} {args : Array Value} {W w1 : World} {v : Value} (h : Calls Try.prog f args (over W w1) (QPost v (over W w1))) :
    Calls Try.prog f args (over W w1) fun e w'' => e = .returned v ∧ ∃ n, w'' = over W n :=
  over_call (h.mono fun _ _ ⟨he, n, hw⟩ => ⟨he, by rw [hw]; exact (Below.refl _ _).trans ⟨rfl, rfl, rfl, Nat.le_refl _, fun _ _ => rfl⟩⟩)
end Go.Proofs.Ytidncnhhjfdifaa
