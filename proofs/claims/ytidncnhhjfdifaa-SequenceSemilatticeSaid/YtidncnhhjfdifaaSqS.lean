
/-
  Appends of a row onto a fresh row, within a drawn region; slices of a row.
-/
import Derived.Test.YtidncnhhjfdifaaSqR
import Derived.Test.YtidncnhhjfdifaaRegM
import Derived.ArgAppend
import Derived.Laws.OwnMore
namespace Go.Proofs.Ytidncnhhjfdifaa
open Go.RowKit
set_option maxRecDepth 4000
set_option maxRecDepth 4000

theorem flat_inv {α : Type} (e : Enc α) : ∀ (l : List α) (j : Nat) (u : Value), (l.flatMap e.enc)[j]? = some u → ∃ i, ∃ (hi : i < l.length), ∃ k, j = i * e.size + k ∧ (e.enc l[i])[k]? = some u := by
  intro l
  induction l with
  | nil => intro j u h; cases h
  | cons x l ih =>
    intro j u h
    have hx := e.len x
    rw [List.flatMap_cons] at h
    rcases Nat.lt_or_ge j e.size with hj | hj
    · rw [List.getElem?_append_left (by omega)] at h
      exact ⟨0, by simp, j, by rw [Nat.zero_mul, Nat.zero_add], h⟩
    · rw [List.getElem?_append_right (by omega), hx] at h
      obtain ⟨i, hi, k, e1, e2⟩ := ih (j - e.size) u h
      exact ⟨i + 1, by simpa using hi, k, by rw [Nat.add_mul, Nat.one_mul]; omega, e2⟩
/-- a row as 'firstCells' wants it -/
theorem row_news {α : Type} {e : Enc α} {w : World} {ad : Addr} {m : List α} (hp : Row e w (some ad) m) : ∀ (j : Nat) (u : Value), (m.flatMap e.enc)[j]? = some u → w.cell? (ad.add j) = some u := by
  intro j u hj
  obtain ⟨i, hi', k, e1, e2⟩ := flat_inv e m j u hj
  obtain ⟨b, off, e', hlt, hc⟩ := hp.at' (by intro e0; subst e0; simp at hi')
  cases e'
  rw [add_at, e1, ← Nat.add_assoc]
  exact hc i hi' k u e2
theorem row_one {α : Type} (e : Enc α) (m : List α) : ∀ u ∈ m.flatMap e.enc, u.oneCell' = true := by
  intro u hu
  obtain ⟨y, -, hy⟩ := List.mem_flatMap.1 hu
  exact e.one y u hy
/-- a fresh row: an empty one without room, or one of the call's own -/
def Ap (B : Nat) (w : World) (v : Value) (l : List Sq.O) : Prop := (∃ b, v = .slice (some ⟨b, 0, none⟩) 0 0 ∧ l = []) ∨ OwnE opE B w v l
theorem Ap.up {B : Nat} {w w' : World} {v : Value} {l : List Sq.O} (h : Ap B w v l) (hb : Below w.heap.size w w') : Ap B w' v l := h.imp id fun h => ownE_up h hb
theorem Ap.row {B : Nat} {w : World} {v : Value} {l : List Sq.O} (h : Ap B w v l) : ∃ q c, v = .slice q l.length c ∧ Row opE w q l := by
  rcases h with ⟨b, rfl, rfl⟩ | h
  · exact ⟨_, _, rfl, Row.nil _ _ _⟩
  · rcases h.2 with ⟨rfl, hn⟩ | ⟨g, cap, cur, rfl, -, hg, hnc, -, hsz, htk⟩
    · have : l = [] := List.eq_nil_of_length_eq_zero hn
      subst this
      exact ⟨none, 0, rfl, Row.nil _ _ _⟩
    · refine ⟨_, _, rfl, ⟨(fun e => by cases e), fun hn => ⟨g, 0, rfl, (Array.getElem?_eq_some_iff.1 hg).1, fun i hi k u hu => ?_⟩⟩⟩
      have hf := flat_at opE l i hi k u hu
      rw [← htk] at hf
      have hlt := (List.getElem?_eq_some_iff.1 hf).1
      rw [List.getElem?_take_of_lt (by simp at hlt; omega)] at hf
      rw [Nat.zero_add]
      simp only [World.cell?, hg]
      simpa using hf
theorem run_append_empty (t ty e : TypeId) (i : TypeInfo) (P : Program) (w : World) (ht : P.underlying t = some (.slice e)) (hi : P.info? e = some i) (b : Nat) (x : Option Addr) (c : Nat) :
    (Builtin.append_ #[t, t] ty #[.slice (some ⟨b, 0, none⟩) 0 0, .slice x 0 c]).run P w = .ok (.slice (some ⟨b, 0, none⟩) 0 0) w := by
  cases x with
  | none => simp [Builtin.append_, run_underlying ht, sizeOf, typeInfo, hi, Builtin.lenOf, Builtin.firstCells, storeCells]
  | some ad => exact run_append_room_cells (P := P) (w := w) t ty e i ht hi b 0 0 0 ad 0 c [] (by simp) (by simp) (by simp) (by omega) (by simp) (by simp)
/-- what an append onto an empty row without room hands back -/
theorem app_zero {B : Nat} {w : World} {b : Nat} {m : List Sq.O} {x : Option Addr} {c : Nat} (ty : TypeId) (hp : Row opE w x m) (hB : B ≤ w.heap.size) (hl : m.length ≤ 2513169434900) :
    ∃ v' w', (Builtin.append_ #[41, 41] ty #[.slice (some ⟨b, 0, none⟩) 0 0, .slice x m.length c]).run Try.prog w = .ok v' w' ∧ Ap B w' v' m ∧ Below w.heap.size w w' := by
  obtain ⟨i0, hi, hz0, hz1, hz2⟩ := info_parts opE.inf
  by_cases h0 : m = []
  · subst h0
    exact ⟨_, _, run_append_empty _ _ _ i0 _ _ Try.underlying41 hi b x c, .inl ⟨b, rfl, rfl⟩, Below.refl _ _⟩
  · have hm : 0 < m.length := List.length_pos_iff.2 h0
    obtain ⟨ad, rfl⟩ : ∃ ad, x = some ad := by
      cases x with
      | none => exact absurd (hp.nil' rfl) h0
      | some ad => exact ⟨ad, rfl⟩
    obtain ⟨v', w', h1, h2, h3⟩ := run_append_arg_grows (P := Try.prog) (w := w) 41 ty 53 i0 opE.z 6 56 Try.underlying41 hi hz0 hz1 hz2 rfl (by decide) ⟨b, 0, none⟩ 0 0 [] rfl (fun j u h => by simp at h) ad m.length c (m.flatMap opE.enc) (flat_len opE m) (row_news hp) (by omega) (by unfold maxLen; omega) (by omega)
    refine ⟨v', w', h1, .inr ?_, (Below.refl _ _).grown h3 (Nat.le_refl _) (fun k e => by cases e)⟩
    rw [List.nil_append, Nat.zero_add] at h2
    rcases h2.2 with ⟨rfl, e⟩ | ⟨g, cap, cur, rfl, hg, r⟩
    · omega
    · exact ⟨h2.1, .inr ⟨g, cap, cur, rfl, Nat.le_trans hB hg, r⟩⟩
/-- an append onto a fresh row -/
theorem app_more {B : Nat} {w : World} {v : Value} {l m : List Sq.O} {x : Option Addr} {c : Nat} (ty : TypeId) (hv : Ap B w v l) (hp : Row opE w x m) (hx : x = none → c = 0) (hB : B ≤ w.heap.size) (hl : l.length + m.length ≤ 2513169434900) :
    ∃ v' w', (Builtin.append_ #[41, 41] ty #[v, .slice x m.length c]).run Try.prog w = .ok v' w' ∧ Ap B w' v' (l ++ m) ∧
      (w.grownBy w' none ∨ ∃ g cur, B ≤ g ∧ w.heap[g]? = some (.cells cur 53 (0, 0)) ∧ w.grownBy w' (some g)) := by
  obtain ⟨i0, hi, hz0, hz1, hz2⟩ := info_parts opE.inf
  rcases hv with ⟨b, rfl, rfl⟩ | hv
  · obtain ⟨v', w', h1, h2, h3⟩ := app_zero (b := b) (c := c) ty hp hB (by simpa using hl)
    exact ⟨v', w', h1, h2, .inl ⟨h3.os, h3.tape, h3.output, h3.size, fun k hk _ => h3.block k hk⟩⟩
  · cases x with
    | none =>
      have := hp.nil' rfl
      subst this
      have := hx rfl
      subst this
      refine ⟨v, w, run_append_owned_none (P := Try.prog) (w := w) B 41 ty 53 i0 6 Try.underlying41 hi v l.length (l.flatMap opE.enc) hv, .inr (by rw [List.append_nil]; exact hv), .inl (World.grownBy.refl _ _)⟩
    | some ad =>
      obtain ⟨v', w', hrun, r1, r2, _, r4⟩ := run_append_own_at (P := Try.prog) (w := w) B 41 ty 53 i0 opE.z 6 56 Try.underlying41 hi hz0 hz1 hz2 rfl (by decide) v l.length (l.flatMap opE.enc) hv ad m.length c (m.flatMap opE.enc) (flat_len opE m) (row_news hp) (row_one opE m) (by unfold maxLen; omega) (by omega) hB
      refine ⟨v', w', hrun, .inr (by unfold OwnE; rw [List.length_append, List.flatMap_append]; exact r1), ?_⟩
      rcases hv.2 with ⟨rfl, _⟩ | ⟨g, cap, cur, rfl, hg, hcur, _⟩
      · exact .inl r2
      · exact .inr ⟨g, cur, hg, hcur, r2⟩
/-- where a slice of operations from k on lies -/
def oAt (p : Option Addr) (k cap : Nat) : Option Addr := if cap = k then p else p.map (·.add (k * 6))
theorem oRun_from (p : Option Addr) (len cap k : Nat) (h : k ≤ len) (w : World) :
    (Instr.slice 41 (.slice p len cap) (some (.int .i64 (k : Int))) none none).run Try.prog w = .ok (.slice (oAt p k cap) (len - k) (cap - k)) w := by
  rw [run_slice_l w 41 p len cap (by rw [Try.underlying41]; rfl) .i64 (k : Int) (by omega) (by omega)]
  have : ∀ w, (sizeOf (Try.prog.elem 41)).run Try.prog w = .ok 6 w := fun w => by kernel_rfl
  rw [this]
  simp [Result.andThen, sliced, oAt]
theorem oRun_upto (p : Option Addr) (len cap k : Nat) (h : k ≤ cap) (w : World) :
    (Instr.slice 41 (.slice p len cap) none (some (.int .i64 (k : Int))) none).run Try.prog w = .ok (.slice p k cap) w := by
  rw [run_slice_h w 41 p len cap (by rw [Try.underlying41]; rfl) .i64 (k : Int) (by omega) (by omega)]
  have : ∀ w, (sizeOf (Try.prog.elem 41)).run Try.prog w = .ok 6 w := fun w => by kernel_rfl
  rw [this]
  have e : (fun a : Addr => a.add 0) = id := by funext a; rfl
  cases p <;> simp [Result.andThen, sliced]
  intro _; rfl
theorem Row.from6 {w : World} {p : Option Addr} {l : List Sq.O} (h : Row opE w p l) (k cap : Nat) (hk : k ≤ l.length) (hc : l.length ≤ cap) : Row opE w (oAt p k cap) (l.drop k) := by
  unfold oAt
  by_cases e : cap = k
  · have : l.drop k = [] := List.drop_eq_nil_of_le (by omega)
    rw [this]; exact Row.nil _ _ _
  · rw [if_neg e]
    cases p with
    | none => rw [h.nil' rfl]; simp; exact Row.nil _ _ _
    | some a =>
      refine ⟨(fun e => by cases e), fun hn => ?_⟩
      have hl : l ≠ [] := by intro e; subst e; simp at hn
      obtain ⟨b, off, e', hb, hcc⟩ := h.at' hl
      cases e'
      refine ⟨b, off + k * 6, by rw [Option.map_some, add_at], hb, fun i hi j u hu => ?_⟩
      rw [List.length_drop] at hi
      rw [List.getElem_drop] at hu
      have := hcc (k + i) (by omega) j u hu
      rw [← this, show opE.size = 6 from rfl, Nat.add_mul, Nat.add_assoc off]
theorem Row.upto6 {w : World} {p : Option Addr} {l : List Sq.O} (h : Row opE w p l) (k : Nat) : Row opE w p (l.take k) := by
  refine ⟨fun e => by rw [h.nil' e]; simp, fun hn => ?_⟩
  have hl : l ≠ [] := by intro e; subst e; simp at hn
  obtain ⟨b, off, e', hb, hcc⟩ := h.at' hl
  refine ⟨b, off, e', hb, fun i hi j u hu => ?_⟩
  rw [List.getElem_take] at hu
  exact hcc i (by simp at hi; omega) j u hu
end Go.Proofs.Ytidncnhhjfdifaa
