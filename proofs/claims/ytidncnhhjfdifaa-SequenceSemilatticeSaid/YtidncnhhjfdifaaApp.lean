
/-
  Appends of rows to rows of the call's own, whatever the elements: in a walk, and within a drawn region.
-/
import Derived.Test.YtidncnhhjfdifaaOwn
import Derived.Laws.OwnMore
import Derived.Maps.AppendAt
import Derived.ArgAppend
namespace Go.Proofs.Ytidncnhhjfdifaa
open Go.RowKit
set_option maxRecDepth 4000
set_option maxRecDepth 4000

theorem flat_invG {α : Type} (e : Enc α) : ∀ (l : List α) (j : Nat) (u : Value), (l.flatMap e.enc)[j]? = some u → ∃ i, ∃ (hi : i < l.length), ∃ k, j = i * e.size + k ∧ (e.enc l[i])[k]? = some u := by
  intro l
  induction l with
  | nil => intro j u h; cases h
  | cons x l ih =>
    intro j u h
    have hx := e.len x
    rw [List.flatMap_cons] at h
    rcases Nat.lt_or_ge j e.size with hj | hj
    · rw [List.getElem?_append_left (by omega)] at h
      exact ⟨0, by simp, j, by rw [Nat.zero_mul, Nat.zero_add], h⟩
    · rw [List.getElem?_append_right (by omega), hx] at h
      obtain ⟨i, hi, k, e1, e2⟩ := ih (j - e.size) u h
      exact ⟨i + 1, by simpa using hi, k, by rw [Nat.add_mul, Nat.one_mul]; omega, e2⟩
theorem row_newsG {α : Type} {e : Enc α} {w : World} {ad : Addr} {m : List α} (hp : Row e w (some ad) m) : ∀ (j : Nat) (u : Value), (m.flatMap e.enc)[j]? = some u → w.cell? (ad.add j) = some u := by
  intro j u hj
  obtain ⟨i, hi', k, e1, e2⟩ := flat_invG e m j u hj
  obtain ⟨b, off, e', hlt, hc⟩ := hp.at' (by intro e0; subst e0; simp at hi')
  cases e'
  rw [add_at, e1, ← Nat.add_assoc]
  exact hc i hi' k u e2
theorem row_oneG {α : Type} (e : Enc α) (m : List α) : ∀ u ∈ m.flatMap e.enc, u.oneCell' = true := by
  intro u hu
  obtain ⟨y, -, hy⟩ := List.mem_flatMap.1 hu
  exact e.one y u hy
/-- 'append(v, x...)' of a row to a row of the call's own -/
theorem wp_appN {α : Type} (e : Enc α) {ops : Array Oper} {rest : List Oper} {o : Oper} {a : Act} {Q : Exit → Act → World → Prop} {w : World} (hgd : o.guard = none) (s x : Operand)
    (ho : o.op = .call { callee := .builtin .append, args := #[s, x], argTypes := #[e.sl, e.sl] })
    (base : Nat) (v : Value) (l m : List α) (p : Option Addr) (cap : Nat) (hs : a.eval s = v) (hown : OwnE e base w v l) (hx : a.eval x = .slice p m.length cap) (hp : Row e w p m) (hcap : p = none → cap = 0)
    (hlen : (l.length + m.length) * e.bytes ≤ 140737488355328) (hm : l.length + m.length ≤ maxLen) (hbase : base ≤ w.heap.size)
    (h : ∀ v' w', OwnE e base w' v' (l ++ m) → w.grownBy w' v.ownBlock → wpList Try.prog ops Q rest (a.put o.dst v') w') : wpList Try.prog ops Q (o :: rest) a w := by
  obtain ⟨i0, hi, hz0, hz1, hz2⟩ := info_parts e.inf
  cases p with
  | none =>
    have hm := hp.nil' rfl
    subst hm
    have hc := hcap rfl
    subst hc
    refine wpList_append_own_none hgd s x e.sl ho base e.ty i0 e.size e.und hi v l.length (l.flatMap e.enc) hs hown hx ?_
    exact h v w (by rw [List.append_nil]; exact hown) (World.grownBy.refl _ _)
  | some ad =>
    refine wpList_append_own _ hgd s x e.sl ho base e.ty i0 e.z e.size e.bytes e.und hi hz0 hz1 hz2 e.zs e.pos v l.length (l.flatMap e.enc) hs hown ad m.length cap (m.flatMap e.enc) hx (flat_len e m) (row_newsG hp) (row_oneG e m) hm hlen hbase ?_
    intro v' w' h1 h2 _
    refine h v' w' ?_ h2
    unfold OwnE
    rw [List.length_append, List.flatMap_append]
    exact h1
/-- the append itself, run -/
theorem run_appN {α : Type} (e : Enc α) {base : Nat} {w : World} {v : Value} {l m : List α} {x : Option Addr} {c : Nat} (ty : TypeId) (hv : OwnE e base w v l) (hp : Row e w x m) (hx : x = none → c = 0) (hB : base ≤ w.heap.size)
    (hl : (l.length + m.length) * e.bytes ≤ 140737488355328) (hm : l.length + m.length ≤ maxLen) :
    ∃ v' w', (Builtin.append_ #[e.sl, e.sl] ty #[v, .slice x m.length c]).run Try.prog w = .ok v' w' ∧ OwnE e base w' v' (l ++ m) ∧ w.grownBy w' v.ownBlock := by
  obtain ⟨i0, hi, hz0, hz1, hz2⟩ := info_parts e.inf
  cases x with
  | none =>
    have := hp.nil' rfl
    subst this
    have := hx rfl
    subst this
    exact ⟨v, w, run_append_owned_none (P := Try.prog) (w := w) base e.sl ty e.ty i0 e.size e.und hi v l.length (l.flatMap e.enc) hv, by rw [List.append_nil]; exact hv, World.grownBy.refl _ _⟩
  | some ad =>
    obtain ⟨v', w', hrun, r1, r2, _, r4⟩ := run_append_own_at (P := Try.prog) (w := w) base e.sl ty e.ty i0 e.z e.size e.bytes e.und hi hz0 hz1 hz2 e.zs e.pos v l.length (l.flatMap e.enc) hv ad m.length c (m.flatMap e.enc) (flat_len e m) (row_newsG hp) (row_oneG e m) hm hl hB
    exact ⟨v', w', hrun, by unfold OwnE; rw [List.length_append, List.flatMap_append]; exact r1, r2⟩
/-- a step of a drawn region that appends -/
theorem step_app_run {o : Oper} {a : Act} {w : World} {K : Act → World → Prop} {Q : Exit → Act → World → Prop} (s x : Operand) (t : TypeId) (hop : o.op = .call { callee := .builtin .append, args := #[s, x], argTypes := #[t, t] }) {v xv v' : Value} {w' : World}
    (hs : a.eval s = v) (hx : a.eval x = xv) (hrun : (Builtin.append_ #[t, t] o.type #[v, xv]).run Try.prog w = .ok v' w') (hK : K (a.put o.dst v') w') : Oper.wp Try.prog o a w K Q := by
  unfold Oper.wp
  simp [execOp, hop, resolve, invoke, builtin, hs, hx, hrun, Result.andThen]
  exact hK
theorem ownE_upG {α : Type} {e : Enc α} {base : Nat} {w w' : World} {v : Value} {l : List α} (h : OwnE e base w v l) (hb : Below w.heap.size w w') : OwnE e base w' v l := by
  obtain ⟨h1, h2 | ⟨g, cap, cur, e, hg, hc, r⟩⟩ := h
  · exact ⟨h1, .inl h2⟩
  · exact ⟨h1, .inr ⟨g, cap, cur, e, hg, by rw [hb.block g (Array.getElem?_eq_some_iff.1 hc).1]; exact hc, r⟩⟩
theorem ownE_leG {α : Type} {e : Enc α} {base base' : Nat} {w : World} {v : Value} {l : List α} (h : OwnE e base w v l) (hb : base' ≤ base) : OwnE e base' w v l := by
  obtain ⟨h1, h2 | ⟨g, cap, cur, e, hg, r⟩⟩ := h
  · exact ⟨h1, .inl h2⟩
  · exact ⟨h1, .inr ⟨g, cap, cur, e, Nat.le_trans hb hg, r⟩⟩
theorem ownE_block {α : Type} {e : Enc α} {base : Nat} {w : World} {v : Value} {l : List α} (h : OwnE e base w v l) : ∀ k, v.ownBlock = some k → base ≤ k ∧ k < w.heap.size := by
  obtain ⟨h1, ⟨rfl, _⟩ | ⟨g, cap, cur, rfl, hg, hc, r⟩⟩ := h
  · intro k hk; cases hk
  · intro k hk; cases hk; exact ⟨hg, (Array.getElem?_eq_some_iff.1 hc).1⟩
/-- rows of elements of two types lie apart -/
theorem own_apartG {α β : Type} {e : Enc α} {e' : Enc β} (ht : e.ty ≠ e'.ty) {base base' : Nat} {w : World} {v v' : Value} {l : List α} {l' : List β} (h : OwnE e base w v l) (h' : OwnE e' base' w v' l') (b : Nat) (hb : v.ownBlock = some b) : v'.ownBlock ≠ some b := by
  obtain ⟨-, ⟨rfl, -⟩ | ⟨g, cap, cur, rfl, -, hg, r⟩⟩ := h
  · cases hb
  · cases hb
    intro e2
    obtain ⟨-, ⟨rfl, -⟩ | ⟨g', cap', cur', rfl, -, hg', r'⟩⟩ := h'
    · cases e2
    · cases e2
      rw [hg] at hg'
      simp only [Option.some.injEq, Obj.cells.injEq] at hg'
      exact ht hg'.2.1
theorem OwnE.keptG {α β : Type} {e : Enc α} {e' : Enc β} (ht : e.ty ≠ e'.ty) {base base' : Nat} {w w' : World} {v v' : Value} {l : List α} {l' : List β} (h : OwnE e base w v l) (h' : OwnE e' base' w v' l') (gr : w.grownBy w' v'.ownBlock) : OwnE e base w' v l := by
  refine World.ownsRow.kept h gr ?_
  cases hb : v.ownBlock with
  | none => exact .inl rfl
  | some b => exact .inr (fun e' => own_apartG ht h h' b hb e'.symm)
theorem ownE_emptyG {α : Type} (e : Enc α) (w : World) (g base : Nat) (hg : g = w.heap.size) (hb : base ≤ w.heap.size) : OwnE e base (w.alloc (.cells #[] e.ty)) (.slice (some ⟨g, 0, none⟩) 0 0) [] := by
  subst hg
  exact World.ownsRow_lit w #[] 0 hb (by decide) (by simp)
end Go.Proofs.Ytidncnhhjfdifaa
