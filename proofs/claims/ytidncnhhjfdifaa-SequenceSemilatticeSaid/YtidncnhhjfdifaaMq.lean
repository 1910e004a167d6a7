
/-
  A map that the call itself has made, asked with the comma-ok: what it holds at each key, where it holds something.
-/
import Derived.Test.YtidncnhhjfdifaaMap
namespace Go.Proofs.Ytidncnhhjfdifaa
open Go.RowKit Go.Maps
set_option maxRecDepth 4000
set_option maxRecDepth 4000

/-- what a map answers where v is held -/
def heldOr (z : DataW Value) : Option Value → DataW Value
  | some v => .held v
  | none => z
theorem heldOr_none {g : Option Value} (h : ∀ z, heldOr z g = z) : g = none := by
  cases g with
  | none => rfl
  | some v => have := h (.map []); unfold heldOr at this; cases this
theorem heldOr_some {g : Option Value} {v : Value} (h : ∀ z, heldOr z g = .held v) : g = some v := by
  cases g with
  | none => have := h (.map []); unfold heldOr at this; cases this
  | some u => have := h (.map []); unfold heldOr at this; cases this; rfl
/-- block b is a map of at most n entries that holds g at each key x -/
def Mq {κ : Type} (P : Program) (k : TypeId) (enc : κ → Value) (ok : κ → Prop) (w : World) (b n : Nat) (g : κ → Option Value) : Prop :=
  ∃ D : DataW Value, w.ownsMap P k RV b n D ∧ ∀ x kl zd, ok x → keyOf P k (enc x) = some kl → D.atKey kl zd = heldOr zd (g x)

section
variable {κ : Type} {P : Program} {k t e : TypeId} {enc : κ → Value} {ok : κ → Prop} {z : Value} {w : World} {b n : Nat} {g : κ → Option Value}

theorem Mq.made (w : World) : Mq P k enc ok (w.alloc (.map #[] 0)) w.heap.size 0 (fun _ => none) :=
  ⟨_, World.ownsMap_made _ _ _ _, fun _ _ _ _ _ => rfl⟩
theorem Mq.up {w' : World} (h : Mq P k enc ok w b n g) (hb : Below w.heap.size w w') : Mq P k enc ok w' b n g := by
  obtain ⟨D, h1, h2⟩ := h
  obtain ⟨es, clock, hb', F, hs, hD⟩ := h1
  exact ⟨D, ⟨es, clock, (hb.block _ (Array.getElem?_eq_some_iff.1 hb').1).trans hb', F, hs, hD⟩, h2⟩
theorem Mq.kept {w' : World} {row : Option Nat} (h : Mq P k enc ok w b n g) (hg : w.grownBy w' row) (hne : some b ≠ row) : Mq P k enc ok w' b n g :=
  let ⟨D, h1, h2⟩ := h
  ⟨D, h1.kept hg hne, h2⟩
theorem Mq.lt (h : Mq P k enc ok w b n g) : b < w.heap.size := let ⟨_, h1, _⟩ := h; h1.lt
theorem Mq.as {g' : κ → Option Value} (h : Mq P k enc ok w b n g) (hg : ∀ x, ok x → g x = g' x) : Mq P k enc ok w b n g' := let ⟨D, h1, h2⟩ := h; ⟨D, h1, fun x kl zd ho hk => by rw [h2 x kl zd ho hk, hg x ho]⟩

theorem Mq.look (h : Mq P k enc ok w b n g) (K : Keyed P k) (ht : P.underlying t = some (.map k e)) (hz : (zeroValue e).run P w = .ok z w) {x : κ} (ho : ok x) {kl : Lit} (hkey : keyOf P k (enc x) = some kl) :
    (Instr.lookup t (.map (some b)) (enc x) true).run P w = .ok (.tuple #[(g x).getD z, .bool (g x).isSome]) w := by
  obtain ⟨D, h1, h2⟩ := h
  have h3 := fun zd => h2 x kl zd ho hkey
  obtain ⟨es, clock, hb, F, _, rfl⟩ := h1
  rcases Maps.fit_look true K ht hz hb F hkey with ⟨hrun, _, hat⟩ | ⟨e0, y, _, _, hrun, hRv, hat, _⟩
  · have e1 : g x = none := heldOr_none (fun zd => by rw [← h3, hat])
    rw [e1]
    exact hrun
  · simp only [RV, Option.some.injEq] at hRv
    subst hRv
    have e1 : g x = some e0.val := heldOr_some (fun zd => by rw [← h3, hat])
    rw [e1]
    exact hrun

theorem Mq.update [DecidableEq κ] (h : Mq P k enc ok w b n g) (K : Keyed P k) (ht : P.underlying t = some (.map k e)) (hn : n < maxLen) (hinj : ∀ x y, ok x → ok y → enc x = enc y → x = y) {x : κ} (ho : ok x) {kl : Lit} (hkey : keyOf P k (enc x) = some kl) (v : Value) :
    ∃ w', (Instr.mapUpdate t (.map (some b)) (enc x) v).run P w = .ok () w' ∧ Mq P k enc ok w' b (n + 1) (fun y => if y = x then some v else g y) ∧ w.grownBy w' (some b) := by
  obtain ⟨D, h1, h2⟩ := h
  obtain ⟨w', hrun, r1, r2⟩ := h1.update K ht hn (d := .held v) (ps := []) hkey (val := v) rfl
  refine ⟨w', hrun, ⟨_, r1, fun y kl' zd hoy hk' => ?_⟩, r2⟩
  by_cases he : y = x
  · subst he
    rw [hkey] at hk'
    cases hk'
    show _ = heldOr zd (if y = y then some v else g y)
    rw [if_pos rfl]
    exact atKey_put_same h1.isMap (K.key hkey) _ _
  · show _ = heldOr zd (if y = x then some v else g y)
    rw [if_neg he, atKey_put_other, h2 y kl' zd hoy hk']
    intro hkk
    subst hkk
    exact he (hinj _ _ hoy ho (K.inj hk' hkey))
end
end Go.Proofs.Ytidncnhhjfdifaa
