/-
  textpatch.changesOf, walked.
-/
import Derived.Test.YtbgnckbgpiajjaaCpA
import Derived.Test.YtbgnckbgpiajjaaCpM
namespace Go.Proofs.Ytbgnckbgpiajjaa
open Go.RowKit
set_option maxRecDepth 4000

/-- a goal at which the walk stops -/
structure Stop (P : Prop) : Prop where
  out : P
/-- a place of the text between two patches -/
structure Plc where
  del : List ByteArray
  ins : List ByteArray
  mad : Bool
  rem : Bool
  ln : ByteArray
/-- the steps at a place, behind its deletions and insertions -/
def Plc.tl (x : Plc) : List (Nat × ByteArray) := match x.mad, x.rem with | false, false => [(0, ByteArray.empty)] | true, false => Tp.is [x.ln] | false, true => Tp.ds [x.ln] | true, true => []
def Plc.st (x : Plc) : List (Nat × ByteArray) := Tp.ds x.del ++ (Tp.is x.ins ++ x.tl)
def stps (xs : List Plc) : List (Nat × ByteArray) := xs.flatMap Plc.st
def zst (s : List (Nat × ByteArray)) : Dif.St ByteArray := s.foldl Dif.pst ⟨[], 0, false⟩
theorem zst_app (s s' : List (Nat × ByteArray)) : zst (s ++ s') = s'.foldl Dif.pst (zst s) := List.foldl_append ..
theorem stps_take (xs : List Plc) (k : Nat) (h : k < xs.length) : stps (xs.take (k + 1)) = stps (xs.take k) ++ xs[k].st := by
  unfold stps
  rw [List.take_succ_eq_append_getElem h, List.flatMap_append, List.flatMap_cons, List.flatMap_nil, List.append_nil]
theorem zst_next (xs : List Plc) (k : Nat) (h : k < xs.length) : zst (stps (xs.take (k + 1))) = xs[k].tl.foldl Dif.pst ((Tp.is xs[k].ins).foldl Dif.pst ((Tp.ds xs[k].del).foldl Dif.pst (zst (stps (xs.take k))))) := by
  rw [stps_take xs k h, zst_app]
  unfold Plc.st
  rw [List.foldl_append, List.foldl_append]

/-- p leads to the places xs -/
structure Pls (w : World) (p : Option Addr) (xs : List Plc) : Prop where
  nil' : p = none → xs = []
  at' : xs ≠ [] → ∃ b off, p = some ⟨b, off, none⟩ ∧ b < w.heap.size ∧ ∀ i (hi : i < xs.length), ∃ d n : Sv, w.cell? ⟨b, off + i * 5, none⟩ = some (sv d) ∧ w.cell? ⟨b, off + i * 5 + 1, none⟩ = some (sv n) ∧
    w.cell? ⟨b, off + i * 5 + 2, none⟩ = some (.bool xs[i].mad) ∧ w.cell? ⟨b, off + i * 5 + 3, none⟩ = some (.bool xs[i].rem) ∧ w.cell? ⟨b, off + i * 5 + 4, none⟩ = some (.string xs[i].ln) ∧ Rd w d xs[i].del ∧ Rd w n xs[i].ins
theorem Pls.cell {w : World} {p : Option Addr} {xs : List Plc} (h : Pls w p xs) {i : Nat} (hi : i < xs.length) :
    ∃ b off, p = some ⟨b, off, none⟩ ∧ b < w.heap.size ∧ ∃ d n : Sv, w.cell? ⟨b, off + i * 5, none⟩ = some (sv d) ∧ w.cell? ⟨b, off + i * 5 + 1, none⟩ = some (sv n) ∧
    w.cell? ⟨b, off + i * 5 + 2, none⟩ = some (.bool xs[i].mad) ∧ w.cell? ⟨b, off + i * 5 + 3, none⟩ = some (.bool xs[i].rem) ∧ w.cell? ⟨b, off + i * 5 + 4, none⟩ = some (.string xs[i].ln) ∧ Rd w d xs[i].del ∧ Rd w n xs[i].ins := by
  obtain ⟨b, off, h1, h2, h3⟩ := h.at' (by intro e; subst e; simp at hi)
  exact ⟨b, off, h1, h2, h3 i hi⟩
/-- a place in a block of its own -/
structure Hr (w : World) (g : Nat) (d n : Value) (mk rm : Bool) (ln : ByteArray) : Prop where
  c0 : w.cell? ⟨g, 0, none⟩ = some d
  c1 : w.cell? ⟨g, 1, none⟩ = some n
  c2 : w.cell? ⟨g, 2, none⟩ = some (.bool mk)
  c3 : w.cell? ⟨g, 3, none⟩ = some (.bool rm)
  c4 : w.cell? ⟨g, 4, none⟩ = some (.string ln)
  lt : g < w.heap.size
theorem Hr.new (w : World) (d n : Value) (mk rm : Bool) (ln : ByteArray) (t : TypeId) : Hr (w.alloc (.cells #[d, n, .bool mk, .bool rm, .string ln] t (0, 0))) w.heap.size d n mk rm ln := by
  refine ⟨?_, ?_, ?_, ?_, ?_, by rw [World.size_alloc]; omega⟩ <;> (rw [World.cell?_alloc_mark]; rfl)
theorem Hr.same {w w' : World} {g : Nat} {d n : Value} {mk rm : Bool} {ln : ByteArray} (h : Hr w g d n mk rm ln) (hb : w'.heap[g]? = w.heap[g]?) (hz : w.heap.size ≤ w'.heap.size) : Hr w' g d n mk rm ln :=
  ⟨by rw [World.cell?_of_block (a := ⟨g, 0, none⟩) hb, h.c0], by rw [World.cell?_of_block (a := ⟨g, 1, none⟩) hb, h.c1], by rw [World.cell?_of_block (a := ⟨g, 2, none⟩) hb, h.c2], by rw [World.cell?_of_block (a := ⟨g, 3, none⟩) hb, h.c3], by rw [World.cell?_of_block (a := ⟨g, 4, none⟩) hb, h.c4], Nat.lt_of_lt_of_le h.lt hz⟩
theorem PBc.up {base pg hg : Nat} {w w' : World} {v : Value} {qs : List Q} {c : Q} (h : PBc base pg hg w v qs c) (hb : Below w.heap.size w w') : PBc base pg hg w' v qs c := by
  have hz := hb.size
  have h1 := h.pl
  have h2 := h.bl
  have h3 := h.hl
  exact ⟨by rw [hb.cell (p := ⟨pg, 0, none⟩) (by dsimp only; omega), h.pc], by rw [hb.frozen (p := ⟨pg, 0, none⟩) (by dsimp only; omega), h.pf], h.pl, by omega, h.hu.up hb,
    fun k => by rw [hb.frozen (p := ⟨hg, k, none⟩) (by dsimp only; omega), h.hf k], h.hl, h.ne, h.own.up hb, fun q hq => (h.ok q hq).next hz (fun k hk _ _ => hb.block k hk) (fun _ _ _ h => h), h.o.up hb, h.n.up hb, h.on, h.vo⟩
/-- sizes while places are walked -/
structure Bz (c : Tp.H) (l : Nat) : Prop where
  lo : 0 ≤ c.at'
  e : c.at' + c.old.length ≤ l
  n : c.new.length ≤ l
  os : ∀ x ∈ c.old, x.size ≤ 140737488351232
  ns : ∀ x ∈ c.new, x.size ≤ 140737488351232
theorem Bz.old {c : Tp.H} {l l' : Nat} (h : Bz c l) (m : List ByteArray) (hm : ∀ x ∈ m, x.size ≤ 140737488351232) (hl : l + m.length ≤ l') : Bz { c with old := c.old ++ m } l' :=
  ⟨h.lo, by have := h.e; simp only [List.length_append]; omega, by have := h.n; dsimp only; omega, fun x hx => by rcases List.mem_append.1 hx with hx | hx; exact h.os x hx; exact hm x hx, h.ns⟩
theorem Bz.new {c : Tp.H} {l l' : Nat} (h : Bz c l) (m : List ByteArray) (hm : ∀ x ∈ m, x.size ≤ 140737488351232) (hl : l + m.length ≤ l') : Bz { c with new := c.new ++ m } l' :=
  ⟨h.lo, by have := h.e; dsimp only; omega, by have := h.n; simp only [List.length_append]; omega, h.os, fun x hx => by rcases List.mem_append.1 hx with hx | hx; exact h.ns x hx; exact hm x hx⟩
theorem Bz.le {c : Tp.H} {l l' : Nat} (h : Bz c l) (hl : l ≤ l') : Bz c l' := ⟨h.lo, by have := h.e; omega, by have := h.n; omega, h.os, h.ns⟩
theorem Bz.keep {c : Tp.H} {l l' : Nat} (h : Bz c l) (hl : l + 1 ≤ l') : Bz ⟨Tp.en c + 1, [], []⟩ l' := by
  have h1 := h.lo; have h2 := h.e
  have e : Tp.en c = c.at' + c.old.length := rfl
  exact ⟨by dsimp only; omega, by simp only [List.length_nil]; omega, Nat.zero_le _, (fun x hx => by cases hx), (fun x hx => by cases hx)⟩
/-- the loop's invariant: k places are walked -/
structure ChI (base pg hg : Nat) (w0 : World) (xs : List Plc) (k : Nat) (w : World) : Prop where
  ex : ∃ v qs c, PBc base pg hg w v qs c ∧ Tp.Zs (zst (stps (xs.take k))) (qs.map (·.1)) c.1 ∧ qs.length ≤ k ∧ Bz c.1 (242 * k) ∧ Below pg w0 w
/-- a patch that can be read in every world that is alike from base on -/
def PtB (base : Nat) (w : World) (p : Option Addr) (hs : List Tp.H) : Prop := ∀ W : World, w.heap.size ≤ W.heap.size → (∀ k, base ≤ k → k < w.heap.size → W.heap[k]? = w.heap[k]?) → Ptc W p hs
theorem PtB.self {base : Nat} {w : World} {p : Option Addr} {hs : List Tp.H} (h : PtB base w p hs) : Ptc w p hs := h w (Nat.le_refl _) (fun _ _ _ => rfl)
theorem PtB.up {base : Nat} {w w' : World} {p : Option Addr} {hs : List Tp.H} (h : PtB base w p hs) (hb : Below w.heap.size w w') : PtB base w' p hs := fun W h1 h2 =>
  h W (Nat.le_trans hb.size h1) (fun k h3 h4 => (h2 k h3 (Nat.lt_of_lt_of_le h4 hb.size)).trans (hb.block k h4))
theorem PtB.le {base base' : Nat} {w : World} {p : Option Addr} {hs : List Tp.H} (h : PtB base w p hs) (hb : base' ≤ base) : PtB base' w p hs := fun W h1 h2 => h W h1 (fun k h3 h4 => h2 k (Nat.le_trans hb h3) h4)
theorem PtB.set {base : Nat} {w : World} {p : Option Addr} {hs : List Tp.H} (h : PtB base w p hs) {g k : Nat} (hg : g < base) (u : Value) : PtB base (w.setCell ⟨g, k, none⟩ u) p hs := fun W h1 h2 =>
  h W (by rw [World.size_setCell] at h1; exact h1) (fun j h3 h4 => (h2 j h3 (by rw [World.size_setCell]; exact h4)).trans (Below.heap_setCell _ _ _ _ (by dsimp only; omega)))
theorem PtB.nil (base : Nat) (w : World) : PtB base w none [] := fun _ _ _ => ⟨fun _ => rfl, fun h => (h rfl).elim⟩
def ChPost (xs : List Plc) (w : World) (e : Ending) (w' : World) : Prop :=
  ∃ p cap, e = .returned (.agg #[.slice p (Dif.pof (stps xs)).length cap]) ∧ PtB w.heap.size w' p (Dif.pof (stps xs)) ∧ (p = none → cap = 0) ∧ (Dif.pof (stps xs)).length ≤ cap ∧ Below w.heap.size w w'
theorem fin_if (c : Tp.H) : (if 0 < c.old.length + c.new.length then [c] else []) = (if Tp.chd c then [c] else []) := by
  by_cases h : Tp.chd c
  · rw [if_pos h, if_pos (show 0 < c.old.length + c.new.length from h)]
  · rw [if_neg h, if_neg (show ¬ 0 < c.old.length + c.new.length from h)]
/-- lines appended to the open hunk -/
theorem chi_old {base pg hg : Nat} {w0 w w2 : World} {v : Value} {qs : List Q} {c : Q} {o' : Sv} (h : PBc base pg hg w v qs c) (hB : Below pg w0 w) (hp : pg < hg) (l : List ByteArray) (hG : w.grownBy w2 (sv c.2.1).ownBlock) (own : OwnE strE base w2 (sv o') (c.1.old ++ l))
    (hat : (sv o').ownBlock = (sv c.2.1).ownBlock ∨ (sv o').ownBlock = some w.heap.size) : PBc base pg hg (w2.setCell ⟨hg, 1, none⟩ (sv o')) v qs ({ c.1 with old := c.1.old ++ l }, o', c.2.2) ∧ Below pg w0 (w2.setCell ⟨hg, 1, none⟩ (sv o')) ∧
      w2.cell? ⟨hg, 1, none⟩ = some (sv c.2.1) ∧ w2.frozen? ⟨hg, 1, none⟩ = false ∧ w.heap.size ≤ (w2.setCell ⟨hg, 1, none⟩ (sv o')).heap.size ∧ (∀ k, base ≤ k → k < w.heap.size → (∀ b, (sv c.2.1).ownBlock = some b → b ≠ k) → (w2.setCell ⟨hg, 1, none⟩ (sv o')).heap[k]? = w.heap[k]?) := by
  have h1 := h.pl; have h2 := h.bl; have h3 := h.hl
  have hho : (sv c.2.1).ownBlock ≠ some hg := fun e => by have := own_block h.o _ e; omega
  refine ⟨h.old l hG own (fun b hb => ?_), (hB.grown hG (by omega) fun b hb => by have := own_block h.o _ hb; omega).setCell (by dsimp only; omega) _, hG.cell h.hu.c1 (Ne.symm hho), by rw [hG.frozen_far ⟨hg, 1, none⟩ (by dsimp only; omega) (Ne.symm hho)]; exact h.hf 1, by rw [World.size_setCell]; exact hG.size, fun k hk hk2 hne => ?_⟩
  · rcases hat with e | e
    · exact .inl (e ▸ hb)
    · rw [e] at hb; cases hb; exact .inr (Nat.le_refl _)
  · rw [Below.heap_setCell _ _ _ _ (by dsimp only; omega)]
    exact hG.block k hk2 (fun e => hne k e.symm rfl)
theorem chi_new {base pg hg : Nat} {w0 w w2 : World} {v : Value} {qs : List Q} {c : Q} {n' : Sv} (h : PBc base pg hg w v qs c) (hB : Below pg w0 w) (hp : pg < hg) (l : List ByteArray) (hG : w.grownBy w2 (sv c.2.2).ownBlock) (own : OwnE strE base w2 (sv n') (c.1.new ++ l))
    (hat : (sv n').ownBlock = (sv c.2.2).ownBlock ∨ (sv n').ownBlock = some w.heap.size) : PBc base pg hg (w2.setCell ⟨hg, 2, none⟩ (sv n')) v qs ({ c.1 with new := c.1.new ++ l }, c.2.1, n') ∧ Below pg w0 (w2.setCell ⟨hg, 2, none⟩ (sv n')) ∧
      w2.cell? ⟨hg, 2, none⟩ = some (sv c.2.2) ∧ w2.frozen? ⟨hg, 2, none⟩ = false ∧ w.heap.size ≤ (w2.setCell ⟨hg, 2, none⟩ (sv n')).heap.size ∧ (∀ k, base ≤ k → k < w.heap.size → (∀ b, (sv c.2.2).ownBlock = some b → b ≠ k) → (w2.setCell ⟨hg, 2, none⟩ (sv n')).heap[k]? = w.heap[k]?) := by
  have h1 := h.pl; have h2 := h.bl; have h3 := h.hl
  have hho : (sv c.2.2).ownBlock ≠ some hg := fun e => by have := own_block h.n _ e; omega
  refine ⟨h.new l hG own (fun b hb => ?_), (hB.grown hG (by omega) fun b hb => by have := own_block h.n _ hb; omega).setCell (by dsimp only; omega) _, hG.cell h.hu.c2 (Ne.symm hho), by rw [hG.frozen_far ⟨hg, 2, none⟩ (by dsimp only; omega) (Ne.symm hho)]; exact h.hf 2, by rw [World.size_setCell]; exact hG.size, fun k hk hk2 hne => ?_⟩
  · rcases hat with e | e
    · exact .inl (e ▸ hb)
    · rw [e] at hb; cases hb; exact .inr (Nat.le_refl _)
  · rw [Below.heap_setCell _ _ _ _ (by dsimp only; omega)]
    exact hG.block k hk2 (fun e => hne k e.symm rfl)

theorem own_app {α : Type} {e : Enc α} {base : Nat} {w : World} {v : Value} {l m : List α} (h : OwnE e base w v (l ++ m)) : ∃ p cap, v = .slice p (l.length + m.length) cap := by
  obtain ⟨p, cap, e, -⟩ := row_of_own h
  exact ⟨p, cap, by rw [e, List.length_append]⟩
theorem sv_len {base : Nat} {w : World} {a : Option Addr} {n c : Nat} {l : List ByteArray} (h : OwnE strE base w (sv (a, n, c)) l) : n = l.length := by
  obtain ⟨p, cap, e, -⟩ := row_of_own h
  simp only [sv, Value.slice.injEq] at e
  exact e.2.1
theorem end2_any (z : Int) (o1 n1 : Option Addr) (o2 o3 n2 n3 : Nat) (w : World) (h1 : 0 ≤ z) (h2 : z ≤ 100000000) (h3 : o2 ≤ 281474976710656) :
    Calls Try.prog 69 #[.agg #[.int .i64 z, .slice o1 o2 o3, .slice n1 n2 n3]] w (BPost (.int .i64 (z + (o2 : Int))) w) := by
  have wz : IntKind.i64.wrap (z + (o2 : Int)) = z + (o2 : Int) := IntWalk.i64_in _ (by omega)
  go_enter Try.func69, Try.ntmps69
  go_wp2_with fail
  go_ret
  exact ⟨rfl, up_alloc (Below.refl _ _) _⟩

set_option maxRecDepth 100000 in
set_option maxHeartbeats 8000000 in
theorem tpChanges_any (p : Option Addr) (xs : List Plc) (n cap : Nat) (w : World) (hn : n = xs.length) (hp : Pls w p xs) (hl : xs.length ≤ 20000) (hx : ∀ x ∈ xs, x.del.length ≤ 120 ∧ x.ins.length ≤ 120 ∧ x.ln.size ≤ 140737488351232) :
    Calls Try.prog 72 #[.slice p n cap] w (ChPost xs w) := by
  subst hn
  have HP := Lib.hid hp
  have HX := Lib.hid hx
  have b0 := up_alloc (up_alloc (up_alloc (Below.refl w.heap.size w) (.cells #[.slice none 0 0] 41 (0, 0))) (.cells #[.slice none 0 0] 41 (0, 0))) (.cells #[.int .i64 0, .slice none 0 0, .slice none 0 0] 81 (0, 0))
  have R0 := Lib.hid (((One.new w (.slice none 0 0) 41 w.heap.size rfl).alloc (.cells #[.slice none 0 0] 41 (0, 0))).alloc (.cells #[.int .i64 0, .slice none 0 0, .slice none 0 0] 81 (0, 0)))
  have G0 := (One.new (w.alloc (.cells #[.slice none 0 0] 41 (0, 0))) (.slice none 0 0) 41 (w.heap.size + 1) (by simp)).alloc (.cells #[.int .i64 0, .slice none 0 0, .slice none 0 0] 81 (0, 0))
  have U0 := Hu.new ((w.alloc (.cells #[.slice none 0 0] 41 (0, 0))).alloc (.cells #[.slice none 0 0] 41 (0, 0))) 0 (.slice none 0 0) (.slice none 0 0) 81
  have F0 : ∀ k, (((w.alloc (.cells #[.slice none 0 0] 41 (0, 0))).alloc (.cells #[.slice none 0 0] 41 (0, 0))).alloc (.cells #[.int .i64 0, .slice none 0 0, .slice none 0 0] 81 (0, 0))).frozen? ⟨((w.alloc (.cells #[.slice none 0 0] 41 (0, 0))).alloc (.cells #[.slice none 0 0] 41 (0, 0))).heap.size, k, none⟩ = false := fun k => by
    rw [World.frozen?_alloc_mark]; rfl
  have hz : (((w.alloc (.cells #[.slice none 0 0] 41 (0, 0))).alloc (.cells #[.slice none 0 0] 41 (0, 0))).alloc (.cells #[.int .i64 0, .slice none 0 0, .slice none 0 0] 81 (0, 0))).heap.size = w.heap.size + 3 := by simp
  have hz2 : ((w.alloc (.cells #[.slice none 0 0] 41 (0, 0))).alloc (.cells #[.slice none 0 0] 41 (0, 0))).heap.size = w.heap.size + 1 + 1 := by simp
  rw [hz2] at U0 F0
  clear hz2 hp hx
  go_enter Try.func72, Try.ntmps72
  go_wp2_with fail
  obtain ⟨W, hW⟩ : ∃ W, W = ((w.alloc (.cells #[.slice none 0 0] 41 (0, 0))).alloc (.cells #[.slice none 0 0] 41 (0, 0))).alloc (.cells #[.int .i64 0, .slice none 0 0, .slice none 0 0] 81 (0, 0)) := ⟨_, rfl⟩
  rw [← hW] at b0 R0 G0 U0 F0 hz ⊢
  have PB0 : PBc (w.heap.size + 3) (w.heap.size + 1) (w.heap.size + 1 + 1) W (.slice none 0 0) [] (⟨0, [], []⟩, (none, 0, 0), (none, 0, 0)) :=
    ⟨G0.c, G0.f, by omega, by omega, U0, F0, by omega, by omega, ownE_nil _ _ _, (fun q hq => by cases hq), ownE_nil _ _ _, ownE_nil _ _ _, (fun b hb => by cases hb), (fun b hb => by cases hb)⟩
  have I0 : Hid (ChI (w.heap.size + 3) (w.heap.size + 1) (w.heap.size + 1 + 1) W xs 0 W) := Lib.hid ⟨_, _, _, PB0, Tp.Zs.start, Nat.le_refl _, ⟨by decide, by decide, by decide, (fun x hx => by cases hx), (fun x hx => by cases hx)⟩, Below.refl _ _⟩
  have B0 := Lib.hid b0
  clear hW b0 G0 U0 F0 PB0
  go_loopw [11] (fun i wr => ∃ k : Nat, k ≤ xs.length ∧ i = .int .i64 k ∧ Hid (ChI (w.heap.size + 3) (w.heap.size + 1) (w.heap.size + 1 + 1) W xs k wr)) (fun i _ => xs.length - (intOf i).toNat)
  case atStart => exact ⟨0, Nat.zero_le _, rfl, I0⟩
  case round =>
    obtain ⟨k, hk, rfl, hI⟩ := hrel
    clear I0
    obtain ⟨v, qs, ⟨h, ⟨o1, o2, o3⟩, ⟨n1, n2, n3⟩⟩, PB, ZS, hq, BZ, BL⟩ := hI.out.ex
    clear hI
    have b0 : (0 : Int) ≤ (k : Int) := by omega
    have uw : Below w.heap.size w wr := B0.out.trans (BL.mono (by omega))
    have hzr := BL.size
    have lo' := sv_len PB.o
    have ln' := sv_len PB.n
    dsimp only at lo' ln'
    subst lo' ln'
    have z1 := BZ.lo
    have z2 := BZ.e
    have z3 := BZ.n
    by_cases hlt : k < xs.length
    · have g1 : decide (k < xs.length) = true := by simpa using hlt
      have b1 : (k : Int) < (xs.length : Int) := by omega
      obtain ⟨b, off, rfl, hbb0, ⟨d1, d2, d3⟩, ⟨i1, i2, i3⟩, c0, c1, c2, c3, c4, rd, ri⟩ := HP.out.cell hlt
      replace c0 := (uw.cell (p := ⟨b, off + k * 5, none⟩) hbb0).trans c0
      replace c1 := (uw.cell (p := ⟨b, off + k * 5 + 1, none⟩) hbb0).trans c1
      replace c2 := (uw.cell (p := ⟨b, off + k * 5 + 2, none⟩) hbb0).trans c2
      replace c3 := (uw.cell (p := ⟨b, off + k * 5 + 3, none⟩) hbb0).trans c3
      replace c4 := (uw.cell (p := ⟨b, off + k * 5 + 4, none⟩) hbb0).trans c4
      have ld := rd.len
      have li := ri.len
      dsimp only at ld li
      subst ld li
      simp only [sv] at c0 c1
      have hxk := HX.out xs[k] (List.getElem_mem hlt)
      have ZN := zst_next xs k hlt
      obtain ⟨x, hxx⟩ : ∃ x, x = xs[k] := ⟨_, rfl⟩
      rw [← hxx] at c0 c1 c2 c3 c4 rd ri hxk ZN
      clear hxx
      obtain ⟨dl, il, mk, rm, ln⟩ := x
      dsimp only at c0 c1 c2 c3 c4 rd ri hxk ZN
      have ZNH := Lib.hid ZN
      clear ZN
      have hb1 := up_alloc (Below.refl wr.heap.size wr) (.cells #[.slice d1 dl.length d3, .slice i1 il.length i3, .bool mk, .bool rm, .string ln] 127 (0, 0))
      have P1 := PB.up hb1
      have H1 := Hr.new wr (.slice d1 dl.length d3) (.slice i1 il.length i3) mk rm ln 127
      have RD1 := Lib.hid ((rd.mono uw).mono hb1)
      have RI := Lib.hid ri
      have SD := Lib.hid rd.sts.small
      have SI := Lib.hid ri.sts.small
      have BL1 := BL.trans (hb1.mono (show w.heap.size + 1 ≤ wr.heap.size by omega))
      have NOo : ∀ b, (sv (o1, h.old.length, o3)).ownBlock = some b → b ≠ wr.heap.size := fun b hb e => by have := (own_block PB.o b hb).2; omega
      have NOn : ∀ b, (sv (n1, h.new.length, n3)).ownBlock = some b → b ≠ wr.heap.size := fun b hb e => by have := (own_block PB.n b hb).2; omega
      have hz1 := hb1.size
      have x1 := P1.hu.c1
      have x2 := P1.hu.c2
      simp only [sv] at x1 x2
      obtain ⟨y0, y1, y2, y3, y4, yl⟩ := H1
      have PBH := Lib.hid PB
      clear PB rd ri hb1
      go_wp2_with (at_builtin; refine Stop.out ?_)
      have H1 : Hr _ _ _ _ _ _ _ := ⟨y0, y1, y2, y3, y4, yl⟩
      clear y0 y1 y2 y3 y4 x1 x2 c0 c1 c2 c3 c4
      obtain ⟨W1, hW1⟩ : ∃ W1, W1 = wr.alloc (.cells #[.slice d1 dl.length d3, .slice i1 il.length i3, .bool mk, .bool rm, .string ln] 127 (0, 0)) := ⟨_, rfl⟩
      rw [← hW1] at P1 H1 RD1 BL1 hz1 yl ⊢
      clear hW1
      refine ⟨?_⟩
      refine wp_appL rfl (.tmp 16) (.tmp 18) rfl (w.heap.size + 3) (.slice o1 h.old.length o3) h.old dl d1 d3 rfl P1.o rfl RD1.out.sts RD1.out.cap0 (by omega) P1.bl ?_
      intro v1 w1 own1 gr1 hat1
      obtain ⟨p1, cp1, rfl⟩ := own_app own1
      obtain ⟨P2, BL2, q1, q2, q3, K2⟩ := chi_old P1 BL1 (by omega) dl gr1 (o' := (p1, (h.old.length + dl.length), cp1)) own1 hat1
      have H2 := H1.same (K2 wr.heap.size (by omega) yl NOo) q3
      have P2H := Lib.hid P2
      have x2 := P2.hu.c2
      simp only [sv] at x2
      simp only [sv] at H2
      obtain ⟨y0, y1, y2, y3, y4, yl2⟩ := H2
      clear P1 H1 RD1 BL1 own1 gr1 hat1 K2 P2
      go_wp2_with (at_builtin; refine Stop.out ?_)
      have H2 : Hr _ _ _ _ _ _ _ := ⟨y0, y1, y2, y3, y4, yl2⟩
      clear y0 y1 y2 y3 y4 x2 q1 q2
      have P2 := P2H.out
      obtain ⟨W2, hW2⟩ : ∃ W2, W2 = w1.setCell ⟨w.heap.size + 1 + 1, 1, none⟩ (.slice p1 (h.old.length + dl.length) cp1) := ⟨_, rfl⟩
      simp only [sv] at P2 P2H H2 BL2 q3 yl2
      rw [← hW2] at P2 P2H H2 BL2 q3 yl2 ⊢
      clear hW2
      refine ⟨?_⟩
      have RI2 := Lib.hid (RI.out.mono (B0.out.trans (BL2.mono (show w.heap.size ≤ w.heap.size + 1 by omega))))
      refine wp_appL rfl (.tmp 22) (.tmp 24) rfl (w.heap.size + 3) (.slice n1 h.new.length n3) h.new il i1 i3 rfl P2.n rfl RI2.out.sts RI2.out.cap0 (by omega) P2.bl ?_
      intro v1' w2 own2 gr2 hat2
      obtain ⟨p2, cp2, rfl⟩ := own_app own2
      obtain ⟨P3, BL3, q1, q2, q4, K3⟩ := chi_new P2 BL2 (by omega) il gr2 (n' := (p2, (h.new.length + il.length), cp2)) own2 hat2
      have H3 := H2.same (K3 wr.heap.size (by omega) yl2 NOn) q4
      clear P2 P2H H2 BL2 RI2 own2 gr2 hat2 K3 NOo NOn
      have P3H := Lib.hid P3
      have x1 := P3.hu.c1
      have x2 := P3.hu.c2
      simp only [sv] at x1 x2 P3H BL3 H3
      obtain ⟨y0, y1, y2, y3, y4, yl3⟩ := H3
      have BZ1 := (BZ.old (l' := 242 * k + 120) dl SD.out (by omega)).new (l' := 242 * k + 240) il SI.out (by omega)
      have ZS1 := (ZS.dels dl).inss il
      have ee := BZ1.e
      have el := BZ1.lo
      have en' := BZ1.n
      dsimp only at ee el en'
      simp only [List.length_append] at ee en'
      clear P3
      cases mk
      · cases rm
        · go_wp2_with fail
          clear y0 y1 y2 y3 y4 x1 x2 q1 q2
          have P3 := P3H.out
          obtain ⟨W3, hW3⟩ : ∃ W3, W3 = w2.setCell ⟨w.heap.size + 1 + 1, 2, none⟩ (.slice p2 (h.new.length + il.length) cp2) := ⟨_, rfl⟩
          rw [← hW3] at P3 P3H BL3 ⊢
          clear hW3
          refine (finish_any (w.heap.size + 1) (w.heap.size + 1 + 1) (w.heap.size + 3) ⟨h.at', h.old ++ dl, h.new ++ il⟩ (p1, (h.old.length + dl.length), cp1) (p2, (h.new.length + il.length), cp2) v qs W3 P3.pbs P3.hu P3.hl (P3.qok BZ1.os BZ1.ns (by simp only [List.length_append]; omega) (by simp only [List.length_append]; omega)) (by simp only [List.length_append]; omega) (by simp only [List.length_append]; omega) (by omega)).mono ?_
          rintro e w4 ⟨rfl, v4, qs4, V4, m4, b4, k4, n4⟩
          have hvg : v.ownBlock ≠ some (w.heap.size + 1 + 1) := fun e => by have := own_block P3.own _ e; omega
          have kb := k4 (w.heap.size + 1 + 1) P3.hu.lt (by omega) hvg
          have U4 := P3.hu.same kb b4.size
          have F4 : ∀ j, w4.frozen? ⟨w.heap.size + 1 + 1, j, none⟩ = false := fun j => by rw [World.frozen?_of_block (a := ⟨w.heap.size + 1 + 1, j, none⟩) kb]; exact P3.hf j
          have BL4 := BL3.trans b4
          have M4 : Hid (qs4.map (·.1) = qs.map (·.1) ++ (if Tp.chd ⟨h.at', h.old ++ dl, h.new ++ il⟩ then [⟨h.at', h.old ++ dl, h.new ++ il⟩] else [])) := Lib.hid (by rw [m4]; exact congrArg _ (fin_if ⟨h.at', h.old ++ dl, h.new ++ il⟩))
          have EN : Tp.en (⟨h.at', h.old ++ dl, h.new ++ il⟩ : Tp.H) + 1 = h.at' + ((h.old.length + dl.length : Nat) : Int) + 1 := by unfold Tp.en; simp
          have ZK := ZS1.keep ByteArray.empty
          have BK := BZ1.keep (l' := 242 * (k + 1)) (by omega)
          rw [EN] at ZK BK
          rw [← M4.out] at ZK
          have ZKH := Lib.hid (And.intro ZK BK)
          clear ZK BK EN
          have hq4 : qs4.length ≤ k + 1 := by
            have := congrArg List.length m4
            rw [List.length_append, List.length_map, List.length_map] at this
            split at this <;> simp only [List.length_singleton, List.length_nil] at this <;> omega
          have V4H := Lib.hid V4
          have hz4 := BL4.size
          obtain ⟨u0, u1, u2, u3⟩ := U4
          simp only [sv] at u0 u1 u2
          clear P3 P3H V4 m4 k4 n4 b4 kb
          go_wp2_with fail
          refine (end2_any h.at' p1 p2 (h.old.length + dl.length) cp1 (h.new.length + il.length) cp2 w4 (by omega) (by omega) (by omega)).mono ?_
          rintro e w5 ⟨rfl, hb5⟩
          have U5 : Hu w5 (w.heap.size + 1 + 1) h.at' (.slice p1 (h.old.length + dl.length) cp1) (.slice p2 (h.new.length + il.length) cp2) := Hu.up ⟨u0, u1, u2, u3⟩ hb5
          have F5 : ∀ j, w5.frozen? ⟨w.heap.size + 1 + 1, j, none⟩ = false := fun j => by rw [hb5.frozen (p := ⟨w.heap.size + 1 + 1, j, none⟩) u3]; exact F4 j
          have hz5 := hb5.size
          have PR := Lib.hid ((V4H.out.up hb5).reopen U5 F5 (by omega) (by omega) (h.at' + ((h.old.length + dl.length : Nat) : Int) + 1))
          have BL5 := Lib.hid ((((BL4.trans (hb5.mono (by omega))).setCell (p := ⟨w.heap.size + 1 + 1, 0, none⟩) (by dsimp only; omega) (.int .i64 (h.at' + ((h.old.length + dl.length : Nat) : Int) + 1))).setCell (p := ⟨w.heap.size + 1 + 1, 1, none⟩) (by dsimp only; omega) (.slice none 0 0)).setCell (p := ⟨w.heap.size + 1 + 1, 2, none⟩) (by dsimp only; omega) (.slice none 0 0))
          have wz : IntKind.i64.wrap (h.at' + ((h.old.length + dl.length : Nat) : Int) + 1) = h.at' + ((h.old.length + dl.length : Nat) : Int) + 1 := IntWalk.i64_in _ (by omega)
          have f0 := F5 0
          have f1 := F5 1
          have f2 := F5 2
          obtain ⟨u0', u1', u2', u3'⟩ := U5
          clear u0 u1 u2 F4 F5 BL4 V4H hb5
          go_wp2_with fail
          go_roundw
          case rel => exact ⟨k + 1, hlt, by go_num, Lib.hid ⟨v4, qs4, _, PR.out, by rw [ZNH.out]; exact ZKH.out.1, hq4, ZKH.out.2, BL5.out⟩⟩
          case measure => first | (simp [intOf]; done) | (simp [intOf]; omega)
        · -- removed alone
          go_wp2_with (at_builtin; refine Stop.out ?_)
          clear y0 y1 y2 y3 y4 x1 x2 q1 q2
          have P3 := P3H.out
          obtain ⟨W3, hW3⟩ : ∃ W3, W3 = w2.setCell ⟨w.heap.size + 1 + 1, 2, none⟩ (.slice p2 (h.new.length + il.length) cp2) := ⟨_, rfl⟩
          rw [← hW3] at P3 P3H BL3 ⊢
          have HZ32 : Hid (W3.heap.size = w2.heap.size) := Lib.hid (by rw [hW3, World.size_setCell])
          clear hW3
          have hb3 := up_alloc (Below.refl W3.heap.size W3) (.cells #[.string ln] 9 (0, 0))
          have hz3 := BL3.size
          refine ⟨?_⟩
          refine wp_appE_at strE rfl (.tmp 54) (.tmp 57) rfl (w.heap.size + 3) (.slice p1 (h.old.length + dl.length) cp1) (h.old ++ dl) ln _ 1 rfl (P3.o.alloc _) rfl (str_one' W3 w2.heap.size HZ32.out ln _) (by simp [strE]; omega) (by simp; omega) (by simp; omega) ?_
          intro v3 w3 own3 gr3 hat3
          obtain ⟨g3, cp3, rfl⟩ := own_succ (m := h.old.length + dl.length) own3 (by simp)
          obtain ⟨P4, BL4, q1, q2, -, -⟩ := chi_old (P3.up hb3) (BL3.trans (hb3.mono (by omega))) (by omega) [ln] gr3 (o' := (some ⟨g3, 0, none⟩, h.old.length + dl.length + 1, cp3)) own3 hat3
          have R4 := Lib.hid (And.intro P4 BL4)
          clear P4 BL4 P3 P3H BL3 own3 gr3 hat3 hb3
          go_wp2_with fail
          go_roundw
          case rel => exact ⟨k + 1, hlt, by go_num, Lib.hid ⟨v, qs, _, R4.out.1, by rw [ZNH.out]; exact ZS1.dels [ln], by omega, BZ1.old [ln] (by intro x hx; rw [List.mem_singleton.1 hx]; exact hxk.2.2) (by simp only [List.length_singleton]; omega), R4.out.2⟩⟩
          case measure => first | (simp [intOf]; done) | (simp [intOf]; omega)
      · cases rm
        · -- made alone
          go_wp2_with (at_builtin; refine Stop.out ?_)
          clear y0 y1 y2 y3 y4 x1 x2 q1 q2
          have P3 := P3H.out
          obtain ⟨W3, hW3⟩ : ∃ W3, W3 = w2.setCell ⟨w.heap.size + 1 + 1, 2, none⟩ (.slice p2 (h.new.length + il.length) cp2) := ⟨_, rfl⟩
          rw [← hW3] at P3 P3H BL3 ⊢
          have HZ32 : Hid (W3.heap.size = w2.heap.size) := Lib.hid (by rw [hW3, World.size_setCell])
          clear hW3
          have hb3 := up_alloc (Below.refl W3.heap.size W3) (.cells #[.string ln] 9 (0, 0))
          have hz3 := BL3.size
          refine ⟨?_⟩
          refine wp_appE_at strE rfl (.tmp 44) (.tmp 47) rfl (w.heap.size + 3) (.slice p2 (h.new.length + il.length) cp2) (h.new ++ il) ln _ 1 rfl (P3.n.alloc _) rfl (str_one' W3 w2.heap.size HZ32.out ln _) (by simp [strE]; omega) (by simp; omega) (by simp; omega) ?_
          intro v3 w3 own3 gr3 hat3
          obtain ⟨g3, cp3, rfl⟩ := own_succ (m := h.new.length + il.length) own3 (by simp)
          obtain ⟨P4, BL4, q1, q2, -, -⟩ := chi_new (P3.up hb3) (BL3.trans (hb3.mono (by omega))) (by omega) [ln] gr3 (n' := (some ⟨g3, 0, none⟩, h.new.length + il.length + 1, cp3)) own3 hat3
          have R4 := Lib.hid (And.intro P4 BL4)
          clear P4 BL4 P3 P3H BL3 own3 gr3 hat3 hb3
          go_wp2_with fail
          go_roundw
          case rel => exact ⟨k + 1, hlt, by go_num, Lib.hid ⟨v, qs, _, R4.out.1, by rw [ZNH.out]; exact ZS1.inss [ln], by omega, BZ1.new [ln] (by intro x hx; rw [List.mem_singleton.1 hx]; exact hxk.2.2) (by simp only [List.length_singleton]; omega), R4.out.2⟩⟩
          case measure => first | (simp [intOf]; done) | (simp [intOf]; omega)
        · -- made and removed
          have R4 := Lib.hid (And.intro P3H.out BL3)
          clear P3H BL3
          go_wp2_with fail
          go_roundw
          case rel => exact ⟨k + 1, hlt, by go_num, Lib.hid ⟨v, qs, _, R4.out.1, by rw [ZNH.out]; exact ZS1, by omega, BZ1.le (by omega), R4.out.2⟩⟩
          case measure => first | (simp [intOf]; done) | (simp [intOf]; omega)
    · have g1 : decide (k < xs.length) = false := by simpa using hlt
      obtain rfl : k = xs.length := by omega
      rw [List.take_length] at ZS
      have PBH := Lib.hid PB
      have RR : One wr w.heap.size (.slice none 0 0) := ⟨by rw [BL.cell (p := ⟨w.heap.size, 0, none⟩) (by dsimp only; omega)]; exact R0.out.c, by rw [BL.frozen (p := ⟨w.heap.size, 0, none⟩) (by dsimp only; omega)]; exact R0.out.f⟩
      go_wp2_with fail
      refine (finish_any (w.heap.size + 1) (w.heap.size + 1 + 1) (w.heap.size + 3) h (o1, h.old.length, o3) (n1, h.new.length, n3) v qs wr PB.pbs PB.hu PB.hl (PB.qok BZ.os BZ.ns (by dsimp only; omega) (by dsimp only; omega)) (by omega) (by omega) (by omega)).mono ?_
      rintro e w4 ⟨rfl, v4, qs4, V4, m4, b4, k4, n4⟩
      rw [fin_if, ← Tp.Zs.done ZS] at m4
      obtain ⟨p4, c4, rfl, -, hc4, hl4⟩ := V4.ptc
      have el : (qs4.map (·.1)).length = (Dif.pof (stps xs)).length := by rw [m4]
      have hpc := V4.pc
      have hb4 := V4.bl
      have R4 : One w4 w.heap.size (.slice none 0 0) := ⟨by rw [b4.cell (p := ⟨w.heap.size, 0, none⟩) (by dsimp only; omega)]; exact RR.c, by rw [b4.frozen (p := ⟨w.heap.size, 0, none⟩) (by dsimp only; omega)]; exact RR.f⟩
      have hpt : PtB (w.heap.size + 3) w4 p4 (Dif.pof (stps xs)) := fun X h1 h2 => by
        obtain ⟨p', c', e', hp', -, -⟩ := V4.ptcW X h1 h2
        injection e' with e1 _ _
        rw [← e1, m4] at hp'
        exact hp'
      replace hpt := (hpt.set (g := w.heap.size) (k := 0) (by omega) (.slice p4 (Dif.pof (stps xs)).length c4)).le (show w.heap.size ≤ w.heap.size + 3 by omega)
      rw [el] at hpc
      have B4 := Lib.hid (((uw.trans (b4.mono (by omega))).setCell (p := ⟨w.heap.size, 0, none⟩) (by dsimp only; omega) (.slice p4 (Dif.pof (stps xs)).length c4)))
      have FIN := Lib.hid (And.intro hpt (And.intro hc4 (show (Dif.pof (stps xs)).length ≤ c4 by rw [← el, List.length_map]; exact hl4)))
      have rc := R4.c
      have rf := R4.f
      have dr : (w4.setCell ⟨w.heap.size, 0, none⟩ (.slice p4 (Dif.pof (stps xs)).length c4)).cell? ⟨w.heap.size, 0, none⟩ = some (.slice p4 (Dif.pof (stps xs)).length c4) := World.cell?_setCell_same _ _ _ R4.c
      clear PB PBH V4 m4 k4 n4 hc4 hl4 hpt RR R4 ZS
      go_wp2_with fail
      refine bodyPost_ret (v := .agg #[.slice p4 (Dif.pof (stps xs)).length c4]) (by simp [results, Try.results72, go_sem, dr]) rfl ⟨p4, c4, rfl, FIN.out.1, FIN.out.2.1, FIN.out.2.2, B4.out⟩
end Go.Proofs.Ytbgnckbgpiajjaa
