
/-
  A single operation that came in.
-/
import Derived.Test.YtidncnhhjfdifaaOps
namespace Go.Proofs.Ytidncnhhjfdifaa
open Go.RowKit
set_option maxRecDepth 4000
theorem op_open {H : Type} {enc : TypeId × Value → H} {W : World} {v : Value} {d : DataW H} {ps : List MemPlace} {fuel : Nat} (hv : ∃ cs, v = .agg cs ∧ cs.size = Try.prog.cellsOf 53)
    (h : DataW.trod enc Try.prog W 0 (fun _ => true) true fuel 53 v.cells.toList = some (d, ps)) (hsz : (d.weights Try.prog 53).all (· ≤ 140737488351232) = true) :
    ∃ o : Sq.O, v = o.v ∧ o.line.size ≤ 140737488351232 := by
  obtain ⟨cs, rfl, hn⟩ := hv
  have e6 : Try.prog.cellsOf 53 = 6 := by kernel_rfl
  rw [e6] at hn
  simp only [Value.cells] at h
  obtain ⟨o, e, r⟩ := op_cell (cs := cs.toList) (by simpa using hn) h hsz
  refine ⟨o, ?_, r⟩
  have : cs = o.enc.toArray := by rw [← e]
  rw [this]
  rfl
end Go.Proofs.Ytidncnhhjfdifaa
