
/-
  Package sequence's keys: elements and identities.
-/
import Derived.Test.YtidncnhhjfdifaaMap
import Derived.DeepKeys4
namespace Go.Proofs.Ytidncnhhjfdifaa
open Go.RowKit Go.Maps
set_option maxRecDepth 4000
set_option maxRecDepth 4000

abbrev El := Int × Int
def elV (x : El) : Value := .agg #[.int .i64 x.1, .int .i64 x.2]
def elOk (x : El) : Prop := (Lit.int .i64 x.1).wf = true ∧ (Lit.int .i64 x.2).wf = true
theorem elV_inj (x y : El) (_ : elOk x) (_ : elOk y) (h : elV x = elV y) : x = y := by
  unfold elV at h
  simp at h
  exact Prod.ext h.1 h.2
theorem laidOut_ : laidOutB Try.prog = true := by kernel_rfl
theorem lawEl : Keyed Try.prog 77 := Keyed.of_law (deep_law_laid laidOut_ (m := 3) (by omega) (of_decide_eq_true (by kernel_rfl)) (by kernel_rfl) (by kernel_rfl))
theorem typesN : ∃ N, Try.prog.types.size = N + 3 := ⟨Try.prog.types.size - 3, by have : (3 ≤ Try.prog.types.size) := of_decide_eq_true (by kernel_rfl); omega⟩
theorem lits_el {P : Program} {k t N : Nat} {f g : Field} (hu : P.underlying k = some (.struct #[f, g])) (hf : f.type = t) (hg : g.type = t) (hfo : f.offset = 0) (hgo : g.offset = 1) (hfn : (f.name != "_") = true) (hgn : (g.name != "_") = true)
    (hc : P.cellsOf k = 2) (hi : P.cellsOf t = 1) (ht : P.underlying t = some (.int .i64)) {a b : Int} (h1 : (Lit.int .i64 a).wf = true) (h2 : (Lit.int .i64 b).wf = true) :
    P.keyLits (N + 2) k [.int .i64 a, .int .i64 b] = some [.int .i64 a, .int .i64 b] := by
  simp [Program.keyLits, hu, hf, hg, hfo, hgo, hfn, hgn, hc, hi, ht, h1, h2]
theorem key_el {P : Program} {k : Nat} {fs : Array Field} {v : Value} {c : Array Value} {ls : List Lit} (hu : P.underlying k = some (.struct fs)) (hk : P.keyType k = true) (hv : v = .agg c) (hc : c.size = P.cellsOf k)
    (hl : P.keyLits (P.types.size + 1) k c.toList = some ls) : ∃ kl, keyOf P k v = some kl := by
  subst hv
  simp [keyOf, hu, hk, Value.formed, hc, Value.cells, hl]
theorem keyEl (x : El) (h : elOk x) : ∃ kl, keyOf Try.prog 77 (elV x) = some kl := by
  obtain ⟨N, hN⟩ := typesN
  refine key_el (ls := [.int .i64 x.1, .int .i64 x.2]) Try.underlying77 (by kernel_rfl) rfl (show 2 = _ by kernel_rfl) ?_
  rw [hN]
  exact lits_el (N := N + 2) Try.underlying77 rfl rfl rfl rfl (by kernel_rfl) (by kernel_rfl) (by kernel_rfl) (by kernel_rfl) Try.underlying3 h.1 h.2
abbrev Id := El × Int
def idV (x : Id) : Value := .agg #[.int .i64 x.1.1, .int .i64 x.1.2, .int .i64 x.2]
def idOk (x : Id) : Prop := elOk x.1 ∧ (Lit.int .i64 x.2).wf = true
theorem idV_inj (x y : Id) (_ : idOk x) (_ : idOk y) (h : idV x = idV y) : x = y := by
  unfold idV at h
  simp at h
  exact Prod.ext (Prod.ext h.1 h.2.1) h.2.2
theorem lawId : Keyed Try.prog 82 := Keyed.of_law (deep_law_laid laidOut_ (m := 4) (by omega) (of_decide_eq_true (by kernel_rfl)) (by kernel_rfl) (by kernel_rfl))
theorem lits_id {P : Program} {k m t N : Nat} {f g : Field} (hu : P.underlying k = some (.struct #[f, g])) (hf : f.type = m) (hg : g.type = t) (hfo : f.offset = 0) (hgo : g.offset = 2) (hfn : (f.name != "_") = true) (hgn : (g.name != "_") = true)
    (hc : P.cellsOf k = 3) (hm : P.cellsOf m = 2) (hi : P.cellsOf t = 1) (ht : P.underlying t = some (.int .i64)) {a b c : Int} {l : List Lit} (hl : P.keyLits (N + 1) m [.int .i64 a, .int .i64 b] = some l) (h3 : (Lit.int .i64 c).wf = true) :
    P.keyLits (N + 2) k [.int .i64 a, .int .i64 b, .int .i64 c] = some (l ++ [.int .i64 c]) := by
  have e : P.keyLits (N + 1) t [.int .i64 c] = some [.int .i64 c] := by simp [Program.keyLits, ht, h3]
  rw [Program.keyLits.eq_def]
  simp [hu, hf, hg, hfo, hgo, hfn, hgn, hc, hm, hi, hl, e]
theorem keyId (x : Id) (h : idOk x) : ∃ kl, keyOf Try.prog 82 (idV x) = some kl := by
  obtain ⟨N, hN⟩ := typesN
  refine key_el (ls := [.int .i64 x.1.1, .int .i64 x.1.2] ++ [.int .i64 x.2]) Try.underlying82 (by kernel_rfl) rfl (show 3 = _ by kernel_rfl) ?_
  rw [hN]
  exact lits_id (N := N + 2) Try.underlying82 rfl rfl rfl rfl (by kernel_rfl) (by kernel_rfl) (by kernel_rfl) (by kernel_rfl) (by kernel_rfl) Try.underlying3
    (lits_el (N := N + 1) Try.underlying77 rfl rfl rfl rfl (by kernel_rfl) (by kernel_rfl) (by kernel_rfl) (by kernel_rfl) Try.underlying3 h.1.1 h.1.2) h.2
end Go.Proofs.Ytidncnhhjfdifaa
