
/-
  A map that the call itself has made, whatever its elements, keyed by structs: what it holds at each key, as a function.
-/
import Derived.Test.YtidncnhhjfdifaaMem
import Derived.Maps.OwnSet
namespace Go.Proofs.Ytidncnhhjfdifaa
open Go.RowKit Go.Maps
set_option maxRecDepth 4000
set_option maxRecDepth 4000

/-- an element reads as itself -/
def RV : Value → Option (DataW Value × List MemPlace) := fun v => some (.held v, [])

/-- block b is a map of at most n entries that holds g at each key x (z where there is none); enc x: the key as a value -/
def Mp {κ : Type} (P : Program) (k : TypeId) (enc : κ → Value) (ok : κ → Prop) (z : Value) (w : World) (b n : Nat) (g : κ → Value) : Prop :=
  ∃ D : DataW Value, w.ownsMap P k RV b n D ∧ ∀ x kl, ok x → keyOf P k (enc x) = some kl → D.atKey kl (.held z) = .held (g x)

section
variable {κ : Type} {P : Program} {k t e : TypeId} {enc : κ → Value} {ok : κ → Prop} {z : Value} {w : World} {b n : Nat} {g : κ → Value}

theorem Mp.made (w : World) : Mp P k enc ok z (w.alloc (.map #[] 0)) w.heap.size 0 (fun _ => z) :=
  ⟨_, World.ownsMap_made _ _ _ _, fun _ _ _ _ => rfl⟩
theorem Mp.kept {w' : World} {row : Option Nat} (h : Mp P k enc ok z w b n g) (hg : w.grownBy w' row) (hne : some b ≠ row) : Mp P k enc ok z w' b n g :=
  let ⟨D, h1, h2⟩ := h
  ⟨D, h1.kept hg hne, h2⟩
theorem Mp.lt (h : Mp P k enc ok z w b n g) : b < w.heap.size := let ⟨_, h1, _⟩ := h; h1.lt
theorem Mp.mono {n' : Nat} (h : Mp P k enc ok z w b n g) (hn : n ≤ n') : Mp P k enc ok z w b n' g := let ⟨D, h1, h2⟩ := h; ⟨D, h1.mono hn, h2⟩
theorem Mp.as {g' : κ → Value} (h : Mp P k enc ok z w b n g) (hg : ∀ x, ok x → g x = g' x) : Mp P k enc ok z w b n g' := let ⟨D, h1, h2⟩ := h; ⟨D, h1, fun x kl ho hk => by rw [h2 x kl ho hk, hg x ho]⟩

theorem Mp.lookup (h : Mp P k enc ok z w b n g) (K : Keyed P k) (ht : P.underlying t = some (.map k e)) (hz : (zeroValue e).run P w = .ok z w) {x : κ} (ho : ok x) {kl : Lit} (hkey : keyOf P k (enc x) = some kl) :
    (Instr.lookup t (.map (some b)) (enc x) false).run P w = .ok (g x) w := by
  obtain ⟨D, h1, h2⟩ := h
  obtain ⟨v, ps, hrun, hv⟩ := h1.lookup K ht hz (R := RV) (zd := .held z) (zp := []) rfl hkey
  rw [h2 x kl ho hkey] at hv
  simp only [RV, Option.some.injEq, Prod.mk.injEq, DataW.held.injEq] at hv
  rw [hrun, hv.1]

theorem Mp.update [DecidableEq κ] (h : Mp P k enc ok z w b n g) (K : Keyed P k) (ht : P.underlying t = some (.map k e)) (hn : n < maxLen) (hinj : ∀ x y, ok x → ok y → enc x = enc y → x = y) {x : κ} (ho : ok x) {kl : Lit} (hkey : keyOf P k (enc x) = some kl) (v : Value) :
    ∃ w', (Instr.mapUpdate t (.map (some b)) (enc x) v).run P w = .ok () w' ∧ Mp P k enc ok z w' b (n + 1) (fun y => if y = x then v else g y) ∧ w.grownBy w' (some b) := by
  obtain ⟨D, h1, h2⟩ := h
  obtain ⟨w', hrun, r1, r2⟩ := h1.update K ht hn (d := .held v) (ps := []) hkey (val := v) rfl
  refine ⟨w', hrun, ⟨_, r1, fun y kl' hoy hk' => ?_⟩, r2⟩
  by_cases he : y = x
  · subst he
    rw [hkey] at hk'
    cases hk'
    show _ = DataW.held (if y = y then v else g y)
    rw [if_pos rfl]
    exact atKey_put_same h1.isMap (K.key hkey) _ _
  · show _ = DataW.held (if y = x then v else g y)
    rw [if_neg he, atKey_put_other, h2 y kl' hoy hk']
    intro hkk
    subst hkk
    exact he (hinj _ _ hoy ho (K.inj hk' hkey))
end

section
variable {κ : Type} {P : Program} {enc : κ → Value} {ok : κ → Prop} {ops : Array Oper} {rest : List Oper} {o : Oper} {a : Act} {Q : Exit → Act → World → Prop}
/-- the look-up, at the operation -/
theorem wpList_lookup_mp (w : World) (hg : o.guard = none) (m x : Operand) (t : TypeId) (hop : o.op = Op.lookup t m x false) (k e : TypeId) (K : Keyed P k) (ht : P.underlying t = some (.map k e)) {z : Value} (hz : (zeroValue e).run P w = .ok z w)
    (b n : Nat) (g : κ → Value) (hm : a.eval m = .map (some b)) (h : Mp P k enc ok z w b n g) (y : κ) (hx : a.eval x = enc y) (ho : ok y) (hkey : ∃ kl, keyOf P k (enc y) = some kl)
    (hK : wpList P ops Q rest (a.put o.dst (g y)) w) : wpList P ops Q (o :: rest) a w := by
  refine wpList_plain hg fun K' hK' => ?_
  obtain ⟨kl, hkey⟩ := hkey
  have hrun := h.lookup K ht hz ho hkey
  unfold Oper.wp
  simp [execOp, hop, hm, hx, hrun, Result.andThen]
  exact hK' _ _ hK
/-- the store, at the operation -/
theorem wpList_update_mp [DecidableEq κ] (w : World) (hg : o.guard = none) (m x v : Operand) (t : TypeId) (hop : o.op = Op.mapUpdate t m x v) (k e : TypeId) (K : Keyed P k) (ht : P.underlying t = some (.map k e)) {z : Value}
    (b n : Nat) (g : κ → Value) (hm : a.eval m = .map (some b)) (h : Mp P k enc ok z w b n g) (hn : n < maxLen) (hinj : ∀ x y, ok x → ok y → enc x = enc y → x = y) (y : κ) (hx : a.eval x = enc y) (ho : ok y) (hkey : ∃ kl, keyOf P k (enc y) = some kl) (val : Value) (hv : a.eval v = val)
    (hK : ∀ w', Mp P k enc ok z w' b (n + 1) (fun u => if u = y then val else g u) → w.grownBy w' (some b) → wpList P ops Q rest (a.put o.dst undef) w') : wpList P ops Q (o :: rest) a w := by
  refine wpList_plain hg fun K' hK' => ?_
  obtain ⟨kl, hkey⟩ := hkey
  obtain ⟨w', hrun, r1, r2⟩ := h.update K ht hn hinj ho hkey val
  unfold Oper.wp
  simp [execOp, hop, hm, hx, hv, hrun, Result.andThen]
  exact hK' _ _ (hK w' r1 r2)
end

end Go.Proofs.Ytidncnhhjfdifaa
