
/-
  The law SequenceOrderFree, walked.
-/
import Derived.Test.YtidncnhhjfdifaaSqQ
import Derived.Test.YtidncnhhjfdifaaOps
namespace Go.Proofs.Ytidncnhhjfdifaa
open Go.RowKit
set_option maxRecDepth 4000

/-- 'append(v, y)', however long -/
theorem wp_appL1 {α : Type} (e : Enc α) {ops : Array Oper} {rest : List Oper} {o : Oper} {a : Act} {Q : Exit → Act → World → Prop} {w : World} (hgd : o.guard = none) (s x : Operand)
    (ho : o.op = .call { callee := .builtin .append, args := #[s, x], argTypes := #[e.sl, e.sl] })
    (base : Nat) (v : Value) (l : List α) (y : α) (ad : Addr) (cap : Nat) (hs : a.eval s = v) (hown : OwnE e base w v l) (hx : a.eval x = .slice (some ad) 1 cap)
    (hp : ∀ k u, (e.enc y)[k]? = some u → w.cell? (ad.add k) = some u)
    (hlen : (l.length + 1) * e.bytes ≤ 140737488355328) (hm : l.length < 100000000000000) (hbase : base ≤ w.heap.size)
    (h : ∀ v' w', OwnE e base w' v' (l ++ [y]) → Below base w w' → wpList Try.prog ops Q rest (a.put o.dst v') w') : wpList Try.prog ops Q (o :: rest) a w := by
  obtain ⟨i0, hi, hz0, hz1, hz2⟩ := info_parts e.inf
  refine wpList_append_own _ hgd s x e.sl ho base e.ty i0 e.z e.size e.bytes e.und hi hz0 hz1 hz2 e.zs e.pos v l.length (l.flatMap e.enc) hs hown ad 1 cap (e.enc y) hx (by rw [e.len, Nat.one_mul]) hp (e.one y) (by unfold maxLen; omega) hlen hbase ?_
  intro v' w' h1 h2 _
  refine h v' w' ?_ ((Below.refl _ _).grown h2 hbase fun k hk => (hown.lt k hk).1)
  unfold OwnE
  rw [List.length_append, List.flatMap_append]
  simpa using h1
end Go.Proofs.Ytidncnhhjfdifaa
