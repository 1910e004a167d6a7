
/-
  The region that makes a set with one more operation: its slots.
-/
import Derived.Test.YtidncnhhjfdifaaSqZ
import Derived.Test.YtidncnhhjfdifaaRegC
import Derived.Test.YtidncnhhjfdifaaOpP
namespace Go.Proofs.Ytidncnhhjfdifaa
open Go.RowKit
set_option maxRecDepth 4000
set_option maxRecDepth 4000
def fV (A : List Sq.O) : Value := .agg #[.int .i64 (Sq.vC A), .int .i64 (Sq.vI A)]
/-- A: the set; A' = A with o behind it -/
def inS (W : World) (p : Option Addr) (A A' : List Sq.O) (o : Sq.O) (n cap : Nat) (b : Bool) : Nat → Value → World → Prop
  | 0, v, _ => ∃ g, v = .slice (some ⟨g, 0, none⟩) 0 0
  | 1, v, _ => v = .slice p n cap
  | 2, v, w => b = true ∨ Ap W.heap.size w v A
  | 3, v, _ => v = .agg #[.bool o.del, .int .i64 o.rep, .int .i64 o.cnt, .int .i64 o.arep, .int .i64 o.acnt, .string o.line]
  | 4, v, w => b = true ∨ ∃ a, v = .slice (some ⟨a, 0, none⟩) 1 1 ∧ Row opE w (some ⟨a, 0, none⟩) [o]
  | 5, v, w => b = true ∧ ∃ q c, v = .slice q (n + 1) c ∧ Row opE w q A' ∧ (q = none → c = 0)
  | 6, v, w => b = true ∧ ∃ q c, v = .tuple #[.slice q (Sq.vL A').length c, .agg #[.int .i64 (Sq.vC A'), .int .i64 (Sq.vI A')]] ∧ Sts w q (Sq.vL A')
  | 7, v, w => b = true ∧ ∃ q c, v = .tuple #[.slice q (Sq.vL A').length c, .agg #[.int .i64 (Sq.vC A'), .int .i64 (Sq.vI A')]] ∧ Sts w q (Sq.vL A')
  | 8, v, w => b = true ∧ ∃ q c, v = .slice q (Sq.vL A').length c ∧ Sts w q (Sq.vL A')
  | 9, v, _ => v = .agg #[.int .i64 (Sq.vC A'), .int .i64 (Sq.vI A')]
  | 10, v, w => ∃ g, v = .pointer (some ⟨g, 0, none⟩) ∧ W.heap.size ≤ g ∧ w.heap[g]? = some (.cells #[.int .i64 0, .int .i64 0] 24 (0, 0))
  | 11, v, w => b = true ∧ ∃ q c, v = .slice q (Sq.vL A').length c ∧ Sts w q (Sq.vL A')
  | _, _, _ => True
theorem inS_up {W : World} {p : Option Addr} {A A' : List Sq.O} {o : Sq.O} {n cap : Nat} {b q : Bool} {w w' : World} (hb : Below w.heap.size w w') (hq : q = false) : ∀ {j : Nat} {v : Value}, inS W p A A' o n cap b j v w → inS W p A A' o n cap (b || q) j v w' := by
  subst hq
  rw [Bool.or_false]
  intro j v h
  match j, h with
  | 0, h | 1, h | 3, h | 9, h => exact h
  | 2, h => exact h.imp id fun h => h.up hb
  | 4, h => exact h.imp id fun ⟨a, h1, h2⟩ => ⟨a, h1, h2.mono hb⟩
  | 5, ⟨h0, q, c, h1, h2, h3⟩ => exact ⟨h0, q, c, h1, h2.mono hb, h3⟩
  | 6, ⟨h0, q, c, h1, h2⟩ | 7, ⟨h0, q, c, h1, h2⟩ | 8, ⟨h0, q, c, h1, h2⟩ | 11, ⟨h0, q, c, h1, h2⟩ => exact ⟨h0, q, c, h1, h2.mono hb⟩
  | 10, ⟨g, h1, h2, h3⟩ => exact ⟨g, h1, h2, (hb.block _ (Array.getElem?_eq_some_iff.1 h3).1).trans h3⟩
  | _ + 12, _ => trivial
theorem inS_app {W : World} {p : Option Addr} {A A' : List Sq.O} {o : Sq.O} {n cap : Nat} {w w' : World} (hg : w.grownBy w' none ∨ ∃ g cur, W.heap.size ≤ g ∧ w.heap[g]? = some (.cells cur 53 (0, 0)) ∧ w.grownBy w' (some g)) :
    ∀ {j : Nat} {v : Value}, j ≠ 5 → inS W p A A' o n cap false j v w → inS W p A A' o n cap true j v w' := by
  intro j v hj h
  match j, hj, h with
  | 0, _, h | 1, _, h | 3, _, h | 9, _, h => exact h
  | 2, _, _ | 4, _, _ => exact .inl rfl
  | 5, hj, _ => exact (hj rfl).elim
  | 6, _, h | 7, _, h | 8, _, h | 11, _, h => exact absurd h.1 (by decide)
  | 10, _, ⟨g, h1, h2, h3⟩ =>
    refine ⟨g, h1, h2, ?_⟩
    rcases hg with hg | ⟨g', cur, _, hc, hg⟩
    · exact (hg.block _ (Array.getElem?_eq_some_iff.1 h3).1 (by simp)).trans h3
    · refine (hg.block _ (Array.getElem?_eq_some_iff.1 h3).1 (fun e => ?_)).trans h3
      cases e
      rw [h3] at hc
      simp at hc
  | _ + 12, _, _ => trivial
theorem Ap.rowC {B : Nat} {w : World} {v : Value} {l : List Sq.O} (h : Ap B w v l) (hl : l ≠ []) : ∃ q c, v = .slice q l.length c ∧ Row opE w q l ∧ (q = none → c = 0) := by
  rcases h with ⟨b, rfl, rfl⟩ | h
  · exact (hl rfl).elim
  · obtain ⟨q, c, e, hr, h1, -, -⟩ := row_of_own h
    exact ⟨q, c, e, hr, h1⟩
theorem row_litO (w : World) (o : Sq.O) : Row opE (w.alloc (.cells #[.bool o.del, .int .i64 o.rep, .int .i64 o.cnt, .int .i64 o.arep, .int .i64 o.acnt, .string o.line] 53 (0, 0))) (some ⟨w.heap.size, 0, none⟩) [o] := row_lit w w.heap.size [o] rfl
end Go.Proofs.Ytidncnhhjfdifaa
