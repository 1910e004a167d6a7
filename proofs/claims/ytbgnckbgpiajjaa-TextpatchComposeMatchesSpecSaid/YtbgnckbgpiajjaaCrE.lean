/-
  The rows of the reference's Compose in memory.
-/
import Derived.Test.YtbgnckbgpiajjaaCpF
import Derived.Test.YtbgnckbgpiajjaaCpG
import Derived.Test.YtbgnckbgpiajjaaCrD
namespace Go.Proofs.Ytbgnckbgpiajjaa
open Go.RowKit
set_option maxRecDepth 4000

/-- a numbered line: its cells -/
def itE : Enc (Int × ByteArray) where
  ty := 100
  sl := 98
  size := 2
  bytes := 24
  z := .agg #[.int .i64 0, .string ByteArray.empty]
  enc x := [.int .i64 x.1, .string x.2]
  len _ := rfl
  one _ u h := by
    rcases List.mem_cons.1 h with rfl | h
    · rfl
    · rw [List.mem_singleton.1 h]; rfl
  pos := by decide
  zs := rfl
  und := Try.underlying98
  inf := by kernel_rfl
theorem it_one (w : World) (H : Nat) (hH : w.heap.size = H) (z : Int) (s : ByteArray) (t : TypeId) (k : Nat) (u : Value) (h : (itE.enc (z, s))[k]? = some u) : (w.alloc (.cells #[.int .i64 z, .string s] t (0, 0))).cell? ((⟨H, 0, none⟩ : Addr).add k) = some u := by
  subst hH
  rw [add_at, Nat.zero_add, World.cell?_alloc_mark]
  simp only [itE] at h
  match k, h with
  | 0, h => simpa using h
  | 1, h => simpa using h
  | k + 2, h => simp at h
theorem flat_inv {α : Type} (e : Enc α) : ∀ (l : List α) (j : Nat) (u : Value), (l.flatMap e.enc)[j]? = some u → ∃ i, ∃ (hi : i < l.length), ∃ k, j = i * e.size + k ∧ (e.enc l[i])[k]? = some u := by
  intro l
  induction l with
  | nil => intro j u h; cases h
  | cons x l ih =>
    intro j u h
    have hx := e.len x
    rw [List.flatMap_cons] at h
    rcases Nat.lt_or_ge j e.size with hj | hj
    · rw [List.getElem?_append_left (by omega)] at h
      exact ⟨0, by simp, j, by rw [Nat.zero_mul, Nat.zero_add], h⟩
    · rw [List.getElem?_append_right (by omega), hx] at h
      obtain ⟨i, hi, k, e1, e2⟩ := ih (j - e.size) u h
      exact ⟨i + 1, by simpa using hi, k, by rw [Nat.add_mul, Nat.one_mul]; omega, e2⟩
/-- 'append(v, x...)' of a row to a row of the call's own -/
theorem wp_appR {α : Type} (e : Enc α) {ops : Array Oper} {rest : List Oper} {o : Oper} {a : Act} {Q : Exit → Act → World → Prop} {w : World} (hgd : o.guard = none) (s x : Operand)
    (ho : o.op = .call { callee := .builtin .append, args := #[s, x], argTypes := #[e.sl, e.sl] })
    (base : Nat) (v : Value) (l m : List α) (p : Option Addr) (cap : Nat) (hs : a.eval s = v) (hown : OwnE e base w v l) (hx : a.eval x = .slice p m.length cap) (hp : Row e w p m) (hcap : p = none → cap = 0)
    (hlen : (l.length + m.length) * e.bytes ≤ 140737488355328) (hm : l.length + m.length < 1000000000) (hbase : base ≤ w.heap.size)
    (h : ∀ v' w', OwnE e base w' v' (l ++ m) → w.grownBy w' v.ownBlock → (v'.ownBlock = v.ownBlock ∨ v'.ownBlock = some w.heap.size) → wpList Try.prog ops Q rest (a.put o.dst v') w') : wpList Try.prog ops Q (o :: rest) a w := by
  obtain ⟨i0, hi, hz0, hz1, hz2⟩ := info_parts e.inf
  cases p with
  | none =>
    have hm := hp.nil' rfl
    subst hm
    have hc := hcap rfl
    subst hc
    refine wpList_append_own_none hgd s x e.sl ho base e.ty i0 e.size e.und hi v l.length (l.flatMap e.enc) hs hown hx ?_
    exact h v w (by rw [List.append_nil]; exact hown) (World.grownBy.refl _ _) (.inl rfl)
  | some ad =>
    refine wpList_append_own_at _ hgd s x e.sl ho base e.ty i0 e.z e.size e.bytes e.und hi hz0 hz1 hz2 e.zs e.pos v l.length (l.flatMap e.enc) hs hown ad m.length cap (m.flatMap e.enc) hx (flat_len e m) ?_ ?_ (by unfold maxLen; omega) hlen hbase ?_
    · intro j u hj
      obtain ⟨i, hi', k, e1, e2⟩ := flat_inv e m j u hj
      obtain ⟨b, off, e', hlt, hc⟩ := hp.at' (by intro e0; subst e0; simp at hi')
      cases e'
      rw [add_at, e1, ← Nat.add_assoc]
      exact hc i hi' k u e2
    · intro u hu
      obtain ⟨y, -, hy⟩ := List.mem_flatMap.1 hu
      exact e.one y u hy
    · intro v' w' h1 h2 _ h4
      refine h v' w' ?_ h2 h4
      unfold OwnE
      rw [List.length_append, List.flatMap_append]
      exact h1
/-- where a row's part from k on lies -/
def sAtN (p : Option Addr) (k cap sz : Nat) : Option Addr := if cap = k then p else p.map (·.add (k * sz))
theorem run_midI (p : Option Addr) (len cap lo hi : Nat) (h : lo ≤ hi) (h' : hi ≤ cap) (w : World) :
    (Instr.slice 98 (.slice p len cap) (some (.int .i64 (lo : Int))) (some (.int .i64 (hi : Int))) none).run Try.prog w = .ok (.slice (sAtN p lo cap 2) (hi - lo) (cap - lo)) w := by
  rw [run_slice_lh w 98 p len cap (by rw [Try.underlying98]; rfl) .i64 .i64 (lo : Int) (hi : Int) (by omega) (by omega) (by omega)]
  have : ∀ w, (sizeOf (Try.prog.elem 98)).run Try.prog w = .ok 2 w := fun w => by kernel_rfl
  rw [this]
  simp [Result.andThen, sliced, sAtN]
theorem run_fromI (p : Option Addr) (len cap k : Nat) (h : k ≤ len) (w : World) :
    (Instr.slice 98 (.slice p len cap) (some (.int .i64 (k : Int))) none none).run Try.prog w = .ok (.slice (sAtN p k cap 2) (len - k) (cap - k)) w := by
  rw [run_slice_l w 98 p len cap (by rw [Try.underlying98]; rfl) .i64 (k : Int) (by omega) (by omega)]
  have : ∀ w, (sizeOf (Try.prog.elem 98)).run Try.prog w = .ok 2 w := fun w => by kernel_rfl
  rw [this]
  simp [Result.andThen, sliced, sAtN]
theorem Row.part {α : Type} {e : Enc α} {w : World} {p : Option Addr} {l : List α} (h : Row e w p l) (k n cap : Nat) (hc : l.length ≤ cap) : Row e w (sAtN p k cap e.size) ((l.drop k).take n) := by
  unfold sAtN
  by_cases ec : cap = k
  · have : (l.drop k).take n = [] := by rw [List.drop_eq_nil_of_le (by omega), List.take_nil]
    rw [this]; exact Row.nil _ _ _
  · rw [if_neg ec]
    cases p with
    | none => rw [h.nil' rfl, List.drop_nil, List.take_nil]; exact Row.nil _ _ _
    | some ad =>
      by_cases hl : l = []
      · subst hl; rw [List.drop_nil, List.take_nil]; exact Row.nil _ _ _
      · obtain ⟨b, off, e', hlt, hcell⟩ := h.at' hl
        cases e'
        refine ⟨(fun h => by cases h), fun _ => ⟨b, off + k * e.size, by rw [Option.map_some, add_at], hlt, fun i hi j u hu => ?_⟩⟩
        have hi1 : i < n := by rw [List.length_take] at hi; omega
        have hi2 : k + i < l.length := by rw [List.length_take, List.length_drop] at hi; omega
        have e1 : ((l.drop k).take n)[i] = l[k + i] := by rw [List.getElem_take, List.getElem_drop]
        rw [e1] at hu
        have := hcell (k + i) hi2 j u hu
        rw [show off + k * e.size + i * e.size + j = off + (k + i) * e.size + j by rw [Nat.add_mul]; omega]
        exact this
theorem sAtN_cap {p : Option Addr} {k cap sz : Nat} (hc : p = none → cap = 0) (h : sAtN p k cap sz = none) : cap - k = 0 := by
  unfold sAtN at h
  split at h
  · have := hc h; omega
  · cases p with
    | none => have := hc rfl; omega
    | some a => cases h

/-- gone in block gb, a row of items ≥ C; all else as in w0 -/
structure Rg (gb C : Nat) (w0 w : World) (g : List ByteArray) (v : Value) (m : List (Int × ByteArray)) : Prop where
  bel : Below gb w0 w
  far : ∀ k, k < C → k ≠ gb → w.heap[k]? = w0.heap[k]?
  gC : gb < C
  le : C ≤ w.heap.size
  gone : OwnE strE gb w (.slice (some ⟨gb, 0, none⟩) 400 400) g
  row : OwnE itE C w v m
theorem Rg.len {gb C : Nat} {w0 w : World} {g : List ByteArray} {v : Value} {m : List (Int × ByteArray)} (h : Rg gb C w0 w g v m) : g.length = 400 := by
  obtain ⟨p, c, e, -⟩ := row_of_own h.gone
  injection e with _ e2 _
  exact e2.symm
theorem Rg.up {gb C : Nat} {w0 w w' : World} {g : List ByteArray} {v : Value} {m : List (Int × ByteArray)} (h : Rg gb C w0 w g v m) (hb : Below w.heap.size w w') : Rg gb C w0 w' g v m := by
  have h1 := h.gC; have h2 := h.le; have h3 := hb.size
  exact ⟨h.bel.trans (hb.mono (by omega)), fun k hk hn => by rw [hb.block k (by omega), h.far k hk hn], h.gC, by omega, h.gone.up hb, h.row.up hb⟩
theorem Rg.push {gb C : Nat} {w0 w w2 : World} {g : List ByteArray} {v v' : Value} {m m' : List (Int × ByteArray)} (h : Rg gb C w0 w g v m) (hG : w.grownBy w2 v.ownBlock) (own : OwnE itE C w2 v' m') : Rg gb C w0 w2 g v' m' := by
  have h1 := h.gC; have h2 := h.le; have h3 := hG.size
  have hv : ∀ b, v.ownBlock = some b → C ≤ b := fun b hb => (own_block h.row b hb).1
  refine ⟨h.bel.grown hG (by omega) (fun b hb => by have := hv b hb; omega), fun k hk hn => ?_, h.gC, by omega, h.gone.kept hG (.inr (fun e => ?_)), own⟩
  · rw [hG.block k (by omega) (fun e => by have := hv k e.symm; omega), h.far k hk hn]
  · have e' : v.ownBlock = some gb := by first | exact e | exact e.symm
    have := hv gb e'
    omega
theorem Rg.cell {gb C : Nat} {w0 w : World} {g : List ByteArray} {v : Value} {m : List (Int × ByteArray)} (h : Rg gb C w0 w g v m) {x : Nat} (hx : x < 400) : w.cell? ⟨gb, x, none⟩ = some (.string (g[x]'(by rw [h.len]; exact hx))) ∧ (∀ k, w.frozen? ⟨gb, k, none⟩ = false) := by
  have hl := h.len
  obtain ⟨p, c, e, hr, -⟩ := row_of_own h.gone
  injection e with e1 _ _
  obtain ⟨b, off, hp, hbz, hcell⟩ := hr.cell (i := x) (by omega)
  rw [← e1] at hp
  cases hp
  have := hcell 0 (.string g[x]) rfl
  simp only [strE, Nat.mul_one, Nat.zero_add, Nat.add_zero] at this
  refine ⟨this, fun k => ?_⟩
  obtain ⟨-, ⟨e', -⟩ | ⟨g', cap2, cur, e', hb', hg, r⟩⟩ := h.gone
  · cases e'
  · injection e' with e1 _ _
    injection e1 with e1
    injection e1 with e1 _ _
    subst e1
    exact frozen_of_row w gb k cur _ hg
/-- a line of gone is written -/
theorem Rg.set {gb C : Nat} {w0 w : World} {g : List ByteArray} {v : Value} {m : List (Int × ByteArray)} (h : Rg gb C w0 w g v m) {x : Nat} (hx : x < 400) (s : ByteArray) : Rg gb C w0 (w.setCell ⟨gb, x, none⟩ (.string s)) (g.set x s) v m := by
  have h1 := h.gC
  have hs := h.gone.stored (i := x) (k := 0) (by rw [h.len]; exact hx) (by decide) s (.string s) rfl
  simp only [strE, Nat.mul_one, Nat.add_zero] at hs
  refine ⟨h.bel.setCell (by exact Nat.le_refl _) _, fun k hk hn => ?_, h.gC, by rw [World.size_setCell]; exact h.le, hs, ownsRow_setCell_below h.row (by dsimp only; omega) _⟩
  rw [Below.heap_setCell _ _ _ _ (by exact hn), h.far k hk hn]
/-- an item of the row -/
theorem Rg.item {gb C : Nat} {w0 w : World} {g : List ByteArray} {v : Value} {m : List (Int × ByteArray)} (h : Rg gb C w0 w g v m) : ∃ p cap, v = .slice p m.length cap ∧ Row itE w p m ∧ (p = none → cap = 0) ∧ m.length ≤ cap ∧ (∀ a, p = some a → C ≤ a.block) := row_of_own h.row
theorem itE_cell {w : World} {p : Option Addr} {l : List (Int × ByteArray)} (h : Row itE w p l) {i : Nat} (hi : i < l.length) :
    ∃ b off, p = some ⟨b, off, none⟩ ∧ b < w.heap.size ∧ w.cell? ⟨b, off + i * 2, none⟩ = some (.int .i64 l[i].1) ∧ w.cell? ⟨b, off + i * 2 + 1, none⟩ = some (.string l[i].2) := by
  obtain ⟨b, off, h1, h2, h3⟩ := h.cell hi
  exact ⟨b, off, h1, h2, h3 0 _ rfl, h3 1 _ rfl⟩
theorem Row.same {α : Type} {e : Enc α} {w w' : World} {p : Option Addr} {l : List α} (h : Row e w p l) (hz : w.heap.size ≤ w'.heap.size) (hb : ∀ a, p = some a → w'.heap[a.block]? = w.heap[a.block]?) : Row e w' p l := by
  refine ⟨h.nil', fun hn => ?_⟩
  obtain ⟨b, off, rfl, hlt, hc⟩ := h.at' hn
  exact ⟨b, off, rfl, by omega, fun i hi k u hu => by rw [World.cell?_of_block (a := ⟨b, off + i * e.size + k, none⟩) (hb ⟨b, off, none⟩ rfl), hc i hi k u hu]⟩
theorem Rd.kept {w w' : World} {s : Sv} {l : List ByteArray} (h : Rd w s l) (hz : w.heap.size ≤ w'.heap.size) (hb : ∀ a, s.1 = some a → w'.heap[a.block]? = w.heap[a.block]?) : Rd w' s l := ⟨h.sts.kept hz hb, h.len, h.cap0, h.cap⟩
/-- the patch of the third loop while it is made (block pg holds its slice); its old lines lie in blocks from gb on below pg, its new ones above; fv: the fresh lines -/
structure Ro (gb pg : Nat) (w0 w : World) (v : Value) (rs : List (Int × Sv × Sv)) (hs : List Tp.H) (fv : Value) (fr : List ByteArray) : Prop where
  bel : Below pg w0 w
  le : pg + 1 ≤ w.heap.size
  gp : gb < pg
  c : w.cell? ⟨pg, 0, none⟩ = some v
  f : w.frozen? ⟨pg, 0, none⟩ = false
  own : OwnE hkE (pg + 1) w v rs
  len : rs.length = hs.length
  each : ∀ j (h : j < rs.length) (h' : j < hs.length), (rs[j]).1 = (hs[j]).at' ∧ Rd w (rs[j]).2.1 (hs[j]).old ∧ (∀ a, (rs[j]).2.1.1 = some a → gb ≤ a.block ∧ a.block < pg) ∧
    Rd w (rs[j]).2.2 (hs[j]).new ∧ (∀ a, (rs[j]).2.2.1 = some a → pg + 1 ≤ a.block ∧ a.block < w.heap.size ∧ v.ownBlock ≠ some a.block ∧ fv.ownBlock ≠ some a.block)
  fo : OwnE strE (pg + 1) w fv fr
  vf : ∀ b, v.ownBlock = some b → fv.ownBlock ≠ some b
  fs : ∀ x ∈ fr, x.size ≤ 140737488351232
theorem Ro.up {gb pg : Nat} {w0 w w' : World} {v : Value} {rs : List (Int × Sv × Sv)} {hs : List Tp.H} {fv : Value} {fr : List ByteArray} (h : Ro gb pg w0 w v rs hs fv fr) (hb : Below w.heap.size w w') : Ro gb pg w0 w' v rs hs fv fr := by
  have h1 := h.le; have hz := hb.size
  refine ⟨h.bel.trans (hb.mono (by omega)), by omega, h.gp, by rw [hb.cell (p := ⟨pg, 0, none⟩) (by dsimp only; omega), h.c], by rw [hb.frozen (p := ⟨pg, 0, none⟩) (by dsimp only; omega), h.f], h.own.up hb, h.len, fun j hj hj' => ?_, h.fo.up hb, h.vf, h.fs⟩
  obtain ⟨e1, e2, e3, e4, e5⟩ := h.each j hj hj'
  exact ⟨e1, e2.mono hb, e3, e4.mono hb, fun a ha => by obtain ⟨k1, k2, k3, k4⟩ := e5 a ha; exact ⟨k1, by omega, k3, k4⟩⟩
/-- a fresh line -/
theorem Ro.fresh {gb pg : Nat} {w0 w w2 : World} {v : Value} {rs : List (Int × Sv × Sv)} {hs : List Tp.H} {fv fv' : Value} {fr : List ByteArray} (h : Ro gb pg w0 w v rs hs fv fr) (x : ByteArray) (hx : x.size ≤ 140737488351232)
    (hG : w.grownBy w2 fv.ownBlock) (own : OwnE strE (pg + 1) w2 fv' (fr ++ [x])) (hat : fv'.ownBlock = fv.ownBlock ∨ fv'.ownBlock = some w.heap.size) : Ro gb pg w0 w2 v rs hs fv' (fr ++ [x]) := by
  have h1 := h.le; have hz := hG.size
  have hf : ∀ b, fv.ownBlock = some b → pg + 1 ≤ b := fun b hb => (own_block h.fo b hb).1
  have hv : ∀ b, v.ownBlock = some b → b < w.heap.size := fun b hb => (own_block h.own b hb).2
  have hpg : fv.ownBlock ≠ some pg := fun e => by have := hf pg e; omega
  refine ⟨h.bel.grown hG (by omega) (fun b hb => by have := hf b hb; omega), by omega, h.gp, hG.cell h.c (Ne.symm hpg), by rw [hG.frozen_far ⟨pg, 0, none⟩ (by dsimp only; omega) (Ne.symm hpg)]; exact h.f, h.own.kept hG ?_, h.len, fun j hj hj' => ?_, own, fun b hb e => ?_, snoc_sizes h.fs hx⟩
  · cases e : v.ownBlock with
    | none => exact .inl rfl
    | some b => exact .inr (fun e' => h.vf b e (by first | exact e' | exact e'.symm))
  · obtain ⟨e1, e2, e3, e4, e5⟩ := h.each j hj hj'
    refine ⟨e1, e2.kept hz (fun a ha => hG.block _ (by have := (e3 a ha).2; omega) (fun e => by have := hf _ e.symm; have := (e3 a ha).2; omega)), e3, e4.kept hz (fun a ha => hG.block _ (e5 a ha).2.1 (fun e => (e5 a ha).2.2.2 e.symm)), fun a ha => ?_⟩
    obtain ⟨k1, k2, k3, k4⟩ := e5 a ha
    refine ⟨k1, by omega, k3, fun e => ?_⟩
    rcases hat with e6 | e6
    · exact k4 (by rw [← e6]; exact e)
    · rw [e6] at e; have := Option.some.inj e; omega
  · rcases hat with e6 | e6
    · exact h.vf b hb (by rw [← e6]; exact e)
    · rw [e6] at e; have := Option.some.inj e; have := hv b hb; omega
/-- the fresh lines are let go -/
theorem Ro.reset {gb pg : Nat} {w0 w : World} {v : Value} {rs : List (Int × Sv × Sv)} {hs : List Tp.H} {fv : Value} {fr : List ByteArray} (h : Ro gb pg w0 w v rs hs fv fr) : Ro gb pg w0 w v rs hs (.slice none 0 0) [] := by
  refine ⟨h.bel, h.le, h.gp, h.c, h.f, h.own, h.len, fun j hj hj' => ?_, ownE_nil _ _ _, fun b _ e => (by cases e), fun x hx => (by cases hx)⟩
  obtain ⟨e1, e2, e3, e4, e5⟩ := h.each j hj hj'
  exact ⟨e1, e2, e3, e4, fun a ha => ⟨(e5 a ha).1, (e5 a ha).2.1, (e5 a ha).2.2.1, fun e => (by cases e)⟩⟩
/-- a hunk -/
theorem Ro.push {gb pg : Nat} {w0 w w2 : World} {v v' : Value} {rs : List (Int × Sv × Sv)} {hs : List Tp.H} {f1 : Option Addr} {f2 f3 : Nat} {fr : List ByteArray} (h : Ro gb pg w0 w v rs hs (.slice f1 f2 f3) fr) (hl : fr.length ≤ 1000000) (at' : Int) (o : Sv) (old : List ByteArray) (ro : Rd w o old) (hb : ∀ a, o.1 = some a → gb ≤ a.block ∧ a.block < pg)
    (hG : w.grownBy w2 v.ownBlock) (own : OwnE hkE (pg + 1) w2 v' (rs ++ [(at', o, (f1, f2, f3))])) (hat : v'.ownBlock = v.ownBlock ∨ ∃ H, w.heap.size ≤ H ∧ v'.ownBlock = some H) :
    Ro gb pg w0 (w2.setCell ⟨pg, 0, none⟩ v') v' (rs ++ [(at', o, (f1, f2, f3))]) (hs ++ [⟨at', old, fr⟩]) (.slice none 0 0) [] ∧ w2.cell? ⟨pg, 0, none⟩ = some v ∧ w2.frozen? ⟨pg, 0, none⟩ = false := by
  have h1 := h.le; have hz := hG.size
  have hv : ∀ b, v.ownBlock = some b → pg + 1 ≤ b := fun b hb => (own_block h.own b hb).1
  have hpg : v.ownBlock ≠ some pg := fun e => by have := hv pg e; omega
  have c2 := hG.cell h.c (Ne.symm hpg)
  have fz2 : w2.frozen? ⟨pg, 0, none⟩ = false := by rw [hG.frozen_far ⟨pg, 0, none⟩ (by dsimp only; omega) (Ne.symm hpg)]; exact h.f
  have hv' : ∀ b, v'.ownBlock = some b → v.ownBlock = some b ∨ w.heap.size ≤ b := fun b hb => by
    rcases hat with e | ⟨H, e1, e2⟩
    · exact .inl (by rw [← e]; exact hb)
    · rw [e2] at hb; have := Option.some.inj hb; exact .inr (by omega)
  have keep : ∀ (s : Sv) (l : List ByteArray), Rd w s l → (∀ a, s.1 = some a → a.block < w.heap.size ∧ a.block ≠ pg ∧ v.ownBlock ≠ some a.block) → Rd (w2.setCell ⟨pg, 0, none⟩ v') s l := fun s l hr ha => hr.kept (by rw [World.size_setCell]; exact hz) (fun a e => by
    rw [Below.heap_setCell _ _ _ _ (by exact (ha a e).2.1), hG.block _ (ha a e).1 (fun e' => (ha a e).2.2 e'.symm)])
  have hfr : Rd w (f1, f2, f3) fr := rd_of_own h.fo h.fs (by omega)
  refine ⟨⟨(h.bel.grown hG (by omega) (fun b hb => by have := hv b hb; omega)).setCell (Nat.le_refl _) _, by rw [World.size_setCell]; omega, h.gp, World.cell?_setCell_same _ _ _ c2, by rw [World.frozen?_setCell]; exact fz2, ownsRow_setCell_below own (by dsimp only; omega) _, by simp [h.len], fun j hj hj' => ?_, ownE_nil _ _ _, fun b _ e => (by cases e), fun x hx => (by cases hx)⟩, c2, fz2⟩
  rcases Nat.lt_or_ge j rs.length with hl' | hl'
  · rw [List.getElem_append_left hl', List.getElem_append_left (by have := h.len; omega)]
    obtain ⟨e1, e2, e3, e4, e5⟩ := h.each j hl' (by have := h.len; omega)
    refine ⟨e1, keep _ _ e2 (fun a ha => ⟨by have := (e3 a ha).2; omega, by have := (e3 a ha).2; omega, fun e => by have := hv _ e; have := (e3 a ha).2; omega⟩), e3, keep _ _ e4 (fun a ha => ⟨(e5 a ha).2.1, by have := (e5 a ha).1; omega, (e5 a ha).2.2.1⟩), fun a ha => ?_⟩
    obtain ⟨k1, k2, k3, -⟩ := e5 a ha
    refine ⟨k1, by rw [World.size_setCell]; omega, fun e => ?_, fun e => (by cases e)⟩
    rcases hv' _ e with e6 | e6
    · exact k3 e6
    · omega
  · have ej : j = rs.length := by simp at hj; omega
    subst ej
    have ef : hs.length = rs.length := h.len.symm
    rw [List.getElem_append_right (Nat.le_refl _)]
    simp only [ef, Nat.sub_self, List.getElem_cons_zero, List.getElem_append_right, Nat.le_refl]
    have hfb : ∀ a, f1 = some a → pg + 1 ≤ a.block ∧ a.block < w.heap.size ∧ v.ownBlock ≠ some a.block := fun a ha => by
      have hob : (Value.slice f1 f2 f3).ownBlock = some a.block := by rw [ha]; rfl
      have := own_block h.fo _ hob
      exact ⟨this.1, this.2, fun e => h.vf _ e hob⟩
    refine ⟨trivial, keep _ _ ro (fun a ha => ⟨by have := (hb a ha).2; omega, by have := (hb a ha).2; omega, fun e => by have := hv _ e; have := (hb a ha).2; omega⟩), hb, keep _ _ hfr (fun a ha => ⟨(hfb a ha).2.1, by have := (hfb a ha).1; omega, (hfb a ha).2.2⟩), fun a ha => ⟨(hfb a ha).1, by rw [World.size_setCell]; have := (hfb a ha).2.1; omega, fun e => ?_, fun e => (by cases e)⟩⟩
    rcases hv' _ e with e6 | e6
    · exact (hfb a ha).2.2 e6
    · have := (hfb a ha).2.1; omega
/-- the patch, to read in every world that is alike from gb on -/
theorem Ro.ptb {gb pg : Nat} {w0 w : World} {v : Value} {rs : List (Int × Sv × Sv)} {hs : List Tp.H} {fv : Value} {fr : List ByteArray} (h : Ro gb pg w0 w v rs hs fv fr) : ∃ p cap, v = .slice p hs.length cap ∧ PtB gb w p hs ∧ (p = none → cap = 0) ∧ hs.length ≤ cap := by
  obtain ⟨p, cap, e, hr, hc, hn, hb⟩ := row_of_own h.own
  have hgp := h.gp
  have hle := h.le
  rw [h.len] at e hn
  refine ⟨p, cap, e, fun X hX hX2 => ⟨fun hp => List.length_eq_zero_iff.1 (by rw [← h.len, hr.nil' hp]; rfl), fun hne => ?_⟩, hc, hn⟩
  obtain ⟨b, off, k1, k2, k3⟩ := hr.at' (fun e => hne (List.length_eq_zero_iff.1 (by rw [← h.len, e]; rfl)))
  have hbb := hb _ k1
  refine ⟨b, off, k1, by omega, fun i hi => ?_⟩
  have hi' : i < rs.length := by have := h.len; omega
  obtain ⟨e1, e2, e3, e4, e5⟩ := h.each i hi' hi
  have kk := k3 i hi'
  have sm : ∀ o, X.cell? ⟨b, o, none⟩ = w.cell? ⟨b, o, none⟩ := fun o => World.cell?_of_block (a := ⟨b, o, none⟩) (hX2 b (by dsimp only at hbb; omega) k2)
  refine ⟨(rs[i]).2.1, (rs[i]).2.2, ?_, (sm _).trans (kk 1 _ rfl), (sm _).trans (kk 2 _ rfl), e2.kept hX (fun a ha => hX2 _ (e3 a ha).1 (by have := (e3 a ha).2; omega)), e4.kept hX (fun a ha => hX2 _ (by have := (e5 a ha).1; omega) (e5 a ha).2.1)⟩
  have k0 : w.cell? ⟨b, off + i * 3, none⟩ = some (.int .i64 (rs[i]).1) := kk 0 _ rfl
  rw [sm, k0, e1]

end Go.Proofs.Ytbgnckbgpiajjaa
