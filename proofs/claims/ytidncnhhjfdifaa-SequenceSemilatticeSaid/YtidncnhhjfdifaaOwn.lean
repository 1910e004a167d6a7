
/-
  Own slices of elements of any number of cells; rows of such elements in memory.
-/
import Derived.Test.YtidncnhhjfdifaaMem
namespace Go.Proofs.Ytidncnhhjfdifaa
open Go.RowKit
set_option maxRecDepth 4000

/-- how an element lies: its cells -/
structure Enc (α : Type) where
  ty : Nat
  sl : Nat
  size : Nat
  bytes : Nat
  z : Value
  enc : α → List Value
  len : ∀ x, (enc x).length = size
  one : ∀ x, ∀ u ∈ enc x, u.oneCell' = true
  pos : 0 < size
  zs : z.cells.size = size
  und : Try.prog.underlying sl = some (.slice ty)
  inf : (Try.prog.info? ty).map (fun i => (i.zero, i.size, i.bytes)) = some (some z, size, bytes)

/-- a row of elements: p leads to l -/
structure Row {α : Type} (e : Enc α) (w : World) (p : Option Addr) (l : List α) : Prop where
  nil' : p = none → l = []
  at' : l ≠ [] → ∃ b off, p = some ⟨b, off, none⟩ ∧ b < w.heap.size ∧ ∀ i (hi : i < l.length) k u, (e.enc l[i])[k]? = some u → w.cell? ⟨b, off + i * e.size + k, none⟩ = some u
theorem Row.mono {α : Type} {e : Enc α} {w w' : World} {p : Option Addr} {l : List α} (h : Row e w p l) (hb : Below w.heap.size w w') : Row e w' p l := by
  refine ⟨h.nil', fun hn => ?_⟩
  obtain ⟨b, off, rfl, hlt, hc⟩ := h.at' hn
  exact ⟨b, off, rfl, Nat.lt_of_lt_of_le hlt hb.size, fun i hi k u hu => by rw [hb.cell (p := ⟨b, off + i * e.size + k, none⟩) hlt, hc i hi k u hu]⟩
theorem Row.nil {α : Type} (e : Enc α) (w : World) (p : Option Addr) : Row e w p [] := ⟨fun _ => rfl, fun h => (h rfl).elim⟩
theorem Row.cell {α : Type} {e : Enc α} {w : World} {p : Option Addr} {l : List α} (h : Row e w p l) {i : Nat} (hi : i < l.length) :
    ∃ b off, p = some ⟨b, off, none⟩ ∧ b < w.heap.size ∧ ∀ k u, (e.enc l[i])[k]? = some u → w.cell? ⟨b, off + i * e.size + k, none⟩ = some u := by
  obtain ⟨b, off, h1, h2, h3⟩ := h.at' (by intro e; subst e; simp at hi)
  exact ⟨b, off, h1, h2, fun k u hu => h3 i hi k u hu⟩
theorem Row.drewN {α : Type} {e : Enc α} {w : World} {p : Option Addr} {l : List α} (h : Row e w p l) (n : Nat) : Row e (w.drewN n) p l := ⟨h.nil', h.at'⟩

/-- a slice of the call's own -/
def OwnE {α : Type} (e : Enc α) (base : Nat) (w : World) (v : Value) (l : List α) : Prop := w.ownsRow base e.ty e.size v l.length (l.flatMap e.enc)
theorem ownE_nil {α : Type} (e : Enc α) (w : World) (base : Nat) : OwnE e base w (.slice none 0 0) [] := World.ownsRow_nil w base e.ty e.size
theorem flat_len {α : Type} (e : Enc α) (l : List α) : (l.flatMap e.enc).length = l.length * e.size := by
  induction l with
  | nil => simp
  | cons x l ih => simp only [List.flatMap_cons, List.length_append, e.len, ih, List.length_cons, Nat.add_mul, Nat.one_mul]; omega
theorem flat_at {α : Type} (e : Enc α) (l : List α) : ∀ (i : Nat) (hi : i < l.length) (k : Nat) (u : Value), (e.enc l[i])[k]? = some u → (l.flatMap e.enc)[i * e.size + k]? = some u := by
  induction l with
  | nil => intro i hi; simp at hi
  | cons x l ih =>
    intro i hi k u hu
    have hk : k < e.size := by
      have := (List.getElem?_eq_some_iff.1 hu).1
      rwa [e.len] at this
    rw [List.flatMap_cons]
    cases i with
    | zero =>
      rw [Nat.zero_mul, Nat.zero_add, List.getElem?_append_left (by rw [e.len]; exact hk)]
      exact hu
    | succ i =>
      have hx := e.len x
      have hm : (i + 1) * e.size = i * e.size + e.size := by rw [Nat.add_mul, Nat.one_mul]
      rw [List.getElem?_append_right (by rw [hx, hm]; omega), hx, show (i + 1) * e.size + k - e.size = i * e.size + k by rw [hm]; omega]
      exact ih i (by simpa using hi) k u hu
theorem row_of_own {α : Type} {e : Enc α} {base : Nat} {w : World} {v : Value} {l : List α} (h : OwnE e base w v l) :
    ∃ p cap, v = .slice p l.length cap ∧ Row e w p l ∧ (p = none → cap = 0) ∧ l.length ≤ cap ∧ (∀ a, p = some a → base ≤ a.block) := by
  obtain ⟨hlen, ⟨rfl, h0⟩ | ⟨g, cap, cur, rfl, hb, hg, hn, hm, hsz, htk⟩⟩ := h
  · have : l = [] := List.length_eq_zero_iff.1 h0
    subst this
    exact ⟨none, 0, rfl, Row.nil _ _ _, fun _ => rfl, Nat.le_refl _, fun a h => by cases h⟩
  · refine ⟨some ⟨g, 0, none⟩, cap, rfl, ⟨(fun h => by cases h), fun _ => ⟨g, 0, rfl, (Array.getElem?_eq_some_iff.1 hg).1, fun i hi k u hu => ?_⟩⟩, (fun h => by cases h), hn, fun a h => by cases h; exact hb⟩
    have hx := flat_at e l i hi k u hu
    have hk : k < e.size := by
      have := (List.getElem?_eq_some_iff.1 hu).1
      rwa [e.len] at this
    have hlt : i * e.size + k < l.length * e.size := by
      have := (List.getElem?_eq_some_iff.1 hx).1
      rwa [flat_len] at this
    rw [← htk, List.getElem?_take, if_pos hlt, Array.getElem?_toList] at hx
    rw [Nat.zero_add]
    unfold World.cell?
    dsimp only
    rw [hg]
    simp only [Option.isSome_none, Bool.false_eq_true, if_false]
    rw [hx]
/-- 'append(v, y)': the one-element slice lies at ad -/
theorem wp_appE {α : Type} (e : Enc α) {ops : Array Oper} {rest : List Oper} {o : Oper} {a : Act} {Q : Exit → Act → World → Prop} {w : World} (hgd : o.guard = none) (s x : Operand)
    (ho : o.op = .call { callee := .builtin .append, args := #[s, x], argTypes := #[e.sl, e.sl] })
    (base : Nat) (v : Value) (l : List α) (y : α) (ad : Addr) (cap : Nat) (hs : a.eval s = v) (hown : OwnE e base w v l) (hx : a.eval x = .slice (some ad) 1 cap)
    (hp : ∀ k u, (e.enc y)[k]? = some u → w.cell? (ad.add k) = some u)
    (hlen : (l.length + 1) * e.bytes ≤ 140737488355328) (hm : l.length < 1000000000) (hbase : base ≤ w.heap.size)
    (h : ∀ v' w', OwnE e base w' v' (l ++ [y]) → Below base w w' → wpList Try.prog ops Q rest (a.put o.dst v') w') : wpList Try.prog ops Q (o :: rest) a w := by
  obtain ⟨i0, hi, hz0, hz1, hz2⟩ := info_parts e.inf
  refine wpList_append_own _ hgd s x e.sl ho base e.ty i0 e.z e.size e.bytes e.und hi hz0 hz1 hz2 e.zs e.pos v l.length (l.flatMap e.enc) hs hown ad 1 cap (e.enc y) hx (by rw [e.len, Nat.one_mul]) hp (e.one y) (by unfold maxLen; omega) hlen hbase ?_
  intro v' w' h1 h2 _
  refine h v' w' ?_ ((Below.refl _ _).grown h2 hbase fun k hk => (hown.lt k hk).1)
  unfold OwnE
  rw [List.length_append, List.flatMap_append]
  simpa using h1
end Go.Proofs.Ytidncnhhjfdifaa
