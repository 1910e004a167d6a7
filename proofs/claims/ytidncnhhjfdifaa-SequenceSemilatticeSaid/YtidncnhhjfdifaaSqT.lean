
/-
  The law SequenceOrderFree, walked.
-/
import Derived.Test.YtidncnhhjfdifaaSqS
namespace Go.Proofs.Ytidncnhhjfdifaa
open Go.RowKit
set_option maxRecDepth 4000
theorem sts_far {w : World} {q : Option Addr} {L : List ByteArray} {g : Nat} {t : TypeId} (h : Sts w q L) (hc : w.heap[g]? = some (.cells #[.int .i64 0, .int .i64 0] t (0, 0))) (x y : Value) : Sts ((w.setCell ⟨g, 0, none⟩ x).setCell ⟨g, 1, none⟩ y) q L := by
  refine ⟨h.small, h.len, h.nil', fun hn => ?_⟩
  obtain ⟨b, off, e, hb, hcell⟩ := h.at' hn
  refine ⟨b, off, e, by rw [World.size_setCell, World.size_setCell]; exact hb, fun i hi => ?_⟩
  have h0 := hcell i hi
  have k0 : w.cell? ⟨g, 0, none⟩ = some (.int .i64 0) := by simp [World.cell?, hc]
  have k1 : w.cell? ⟨g, 1, none⟩ = some (.int .i64 0) := by simp [World.cell?, hc]
  rw [World.cell?_setCell_other (h := fun e => by rw [← e] at h0; rw [k1] at h0; cases h0), World.cell?_setCell_other (h := fun e => by rw [← e] at h0; rw [k0] at h0; cases h0), h0]
theorem step_run {o : Oper} {a : Act} {w : World} {K : Act → World → Prop} {Q : Exit → Act → World → Prop} (s x : Operand) (hop : o.op = .call { callee := .builtin .append, args := #[s, x], argTypes := #[41, 41] }) {v xv v' : Value} {w' : World}
    (hs : a.eval s = v) (hx : a.eval x = xv) (hrun : (Builtin.append_ #[41, 41] o.type #[v, xv]).run Try.prog w = .ok v' w') (hK : K (a.put o.dst v') w') : Oper.wp Try.prog o a w K Q := by
  unfold Oper.wp
  simp [execOp, hop, resolve, invoke, builtin, hs, hx, hrun, Result.andThen]
  exact hK
theorem cut_perm (l : List Sq.O) (n : Nat) : (l.drop n ++ l.take n).Perm l := by
  have := List.perm_append_comm (l₁ := l.drop n) (l₂ := l.take n)
  rwa [List.take_append_drop] at this
/-- the slots of the region that turns the set about -/
def omS (W : World) (p : Option Addr) (l : List Sq.O) (cap n : Nat) (b : Bool) : Nat → Value → World → Prop
  | 0, v, _ => ∃ g, v = .slice (some ⟨g, 0, none⟩) 0 0
  | 1, v, _ => v = .slice p l.length cap
  | 2, v, _ => v = .int .i64 n
  | 3, v, _ => v = .slice (oAt p n cap) (l.length - n) (cap - n)
  | 4, v, w => b = true ∨ Ap W.heap.size w v (l.drop n)
  | 5, v, _ => v = .slice p l.length cap
  | 6, v, _ => v = .int .i64 n
  | 7, v, _ => v = .slice p n cap
  | 8, v, w => b = true ∧ ∃ q c, v = .slice q l.length c ∧ Row opE w q (l.drop n ++ l.take n)
  | 9, v, w => b = true ∧ ∃ q c, v = .tuple #[.slice q (Sq.vL l).length c, (.agg #[.int .i64 (Sq.vC (l.drop n ++ l.take n)), .int .i64 (Sq.vI (l.drop n ++ l.take n))])] ∧ Sts w q (Sq.vL l)
  | 10, v, w => b = true ∧ ∃ q c, v = .tuple #[.slice q (Sq.vL l).length c, (.agg #[.int .i64 (Sq.vC (l.drop n ++ l.take n)), .int .i64 (Sq.vI (l.drop n ++ l.take n))])] ∧ Sts w q (Sq.vL l)
  | 11, v, w => b = true ∧ ∃ q c, v = .slice q (Sq.vL l).length c ∧ Sts w q (Sq.vL l)
  | 12, v, _ => v = (.agg #[.int .i64 (Sq.vC (l.drop n ++ l.take n)), .int .i64 (Sq.vI (l.drop n ++ l.take n))])
  | 13, v, w => ∃ g, v = .pointer (some ⟨g, 0, none⟩) ∧ W.heap.size ≤ g ∧ w.heap[g]? = some (.cells #[.int .i64 0, .int .i64 0] 24 (0, 0))
  | 14, v, w => b = true ∧ ∃ q c, v = .slice q (Sq.vL l).length c ∧ Sts w q (Sq.vL l)
  | _, _, _ => True
theorem omS_up {W : World} {p : Option Addr} {l : List Sq.O} {cap n : Nat} {b q : Bool} {w w' : World} (hb : Below w.heap.size w w') (hq : q = false) : ∀ {j : Nat} {v : Value}, omS W p l cap n b j v w → omS W p l cap n (b || q) j v w' := by
  subst hq
  rw [Bool.or_false]
  intro j v h
  match j, h with
  | 0, h | 1, h | 2, h | 3, h | 5, h | 6, h | 7, h | 12, h => exact h
  | 4, h => exact h.imp id fun h => h.up hb
  | 8, ⟨h0, q, c, h1, h2⟩ => exact ⟨h0, q, c, h1, h2.mono hb⟩
  | 9, ⟨h0, q, c, h1, h2⟩ | 10, ⟨h0, q, c, h1, h2⟩ | 11, ⟨h0, q, c, h1, h2⟩ | 14, ⟨h0, q, c, h1, h2⟩ => exact ⟨h0, q, c, h1, h2.mono hb⟩
  | 13, ⟨g, h1, h2, h3⟩ => exact ⟨g, h1, h2, (hb.block _ (Array.getElem?_eq_some_iff.1 h3).1).trans h3⟩
  | _ + 15, _ => trivial
theorem omS_app {W : World} {p : Option Addr} {l : List Sq.O} {cap n : Nat} {w w' : World} (hg : w.grownBy w' none ∨ ∃ g cur, W.heap.size ≤ g ∧ w.heap[g]? = some (.cells cur 53 (0, 0)) ∧ w.grownBy w' (some g)) :
    ∀ {j : Nat} {v : Value}, j ≠ 8 → omS W p l cap n false j v w → omS W p l cap n true j v w' := by
  intro j v hj h
  match j, hj, h with
  | 0, _, h | 1, _, h | 2, _, h | 3, _, h | 5, _, h | 6, _, h | 7, _, h | 12, _, h => exact h
  | 4, _, _ => exact .inl rfl
  | 8, hj, _ => exact (hj rfl).elim
  | 9, _, h | 10, _, h | 11, _, h | 14, _, h => exact absurd h.1 (by decide)
  | 13, _, ⟨g, h1, h2, h3⟩ =>
    refine ⟨g, h1, h2, ?_⟩
    rcases hg with hg | ⟨g', cur, _, hc, hg⟩
    · exact (hg.block _ (Array.getElem?_eq_some_iff.1 h3).1 (by simp)).trans h3
    · refine (hg.block _ (Array.getElem?_eq_some_iff.1 h3).1 (fun e => ?_)).trans h3
      cases e
      rw [h3] at hc
      simp at hc
  | _ + 15, _, _ => trivial
end Go.Proofs.Ytidncnhhjfdifaa
