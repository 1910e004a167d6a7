
/-
  The reference's PatchOf, walked.
-/
import Derived.Test.YtcheggdfcdokiaaDoorDifP
import Derived.Deep.RegionHeld3
namespace Go.Proofs.YtcheggdfcdokiaaDoor
open Go.RowKit
set_option maxRecDepth 4000

theorem onLast_snoc (f : Dif.Hk ByteArray → Dif.Hk ByteArray) (l : List (Dif.Hk ByteArray)) (h : Dif.Hk ByteArray) : Dif.onLast f (l ++ [h]) = l ++ [f h] := by
  induction l with
  | nil => rfl
  | cons x l ih =>
    cases l with
    | nil => rfl
    | cons y l => simp only [List.cons_append, Dif.onLast] at ih ⊢; rw [ih]
/-- the state behind k steps -/
def pstAt (l : List (Nat × ByteArray)) (k : Nat) : Dif.St ByteArray := (l.take k).foldl Dif.pst ⟨[], 0, false⟩
theorem pstAt_next (l : List (Nat × ByteArray)) (k : Nat) (h : k < l.length) : pstAt l (k + 1) = Dif.pst (pstAt l k) l[k] := by
  unfold pstAt
  rw [List.take_succ_eq_append_getElem h, List.foldl_append]; rfl
theorem pstAt_end (l : List (Nat × ByteArray)) (k : Nat) (h : l.length ≤ k) : (pstAt l k).hs = Dif.pof l := by
  unfold pstAt Dif.pof
  rw [List.take_of_length_le h]
theorem pst_at (s : Dif.St ByteArray) (x : Nat × ByteArray) : (Dif.pst s x).at' ≤ s.at' + 1 := by
  unfold Dif.pst
  split
  · exact Nat.le_refl _
  · split
    · exact Nat.le_refl _
    · exact Nat.le_succ _
theorem pstAt_at (l : List (Nat × ByteArray)) (k : Nat) (h : k ≤ l.length) : (pstAt l k).at' ≤ k := by
  induction k with
  | zero => exact Nat.le_refl _
  | succ k ih =>
    rw [pstAt_next l k h]
    have := pst_at (pstAt l k) l[k]
    have := ih (by omega)
    omega
/-- what lies in memory behind k steps -/
def PI (base pg k : Nat) (w : World) (s : Dif.St ByteArray) : Prop :=
  ∃ v qs, (s.open' = false ∧ PBs base pg k w v qs ∧ s.hs = qs.map (·.1)) ∨ (s.open' = true ∧ ∃ c, PBo base pg k w v qs c ∧ s.hs = (qs ++ [c]).map (·.1))
theorem PI.keep {base pg k : Nat} {w : World} {s : Dif.St ByteArray} (h : PI base pg k w s) (hk : k ≤ 281474976710656) (x : ByteArray) : PI base pg (k + 1) w (Dif.pst s (0, x)) := by
  obtain ⟨v, qs, ⟨-, h2, h3⟩ | ⟨-, c, h2, h3⟩⟩ := h
  · exact ⟨v, qs, .inl ⟨rfl, h2.next (Nat.le_succ _), h3⟩⟩
  · exact ⟨v, qs ++ [c], .inl ⟨rfl, (h2.shut hk).next (Nat.le_succ _), h3⟩⟩
/-- an element of a slice of the call's own is appended; where the new one lies -/
theorem wp_appE_at {α : Type} (e : Enc α) {ops : Array Oper} {rest : List Oper} {o : Oper} {a : Act} {Q : Exit → Act → World → Prop} {w : World} (hgd : o.guard = none) (s x : Operand)
    (ho : o.op = .call { callee := .builtin .append, args := #[s, x], argTypes := #[e.sl, e.sl] })
    (base : Nat) (v : Value) (l : List α) (y : α) (ad : Addr) (cap : Nat) (hs : a.eval s = v) (hown : OwnE e base w v l) (hx : a.eval x = .slice (some ad) 1 cap)
    (hp : ∀ k u, (e.enc y)[k]? = some u → w.cell? (ad.add k) = some u)
    (hlen : (l.length + 1) * e.bytes ≤ 140737488355328) (hm : l.length < 1000000000) (hbase : base ≤ w.heap.size)
    (h : ∀ v' w', OwnE e base w' v' (l ++ [y]) → w.grownBy w' v.ownBlock → (v'.ownBlock = v.ownBlock ∨ v'.ownBlock = some w.heap.size) → wpList Tryd.prog ops Q rest (a.put o.dst v') w') : wpList Tryd.prog ops Q (o :: rest) a w := by
  obtain ⟨i0, hi, hz0, hz1, hz2⟩ := info_parts e.inf
  refine wpList_append_own_at _ hgd s x e.sl ho base e.ty i0 e.z e.size e.bytes e.und hi hz0 hz1 hz2 e.zs e.pos v l.length (l.flatMap e.enc) hs hown ad 1 cap (e.enc y) hx (by rw [e.len, Nat.one_mul]) hp (e.one y) (by unfold maxLen; omega) hlen hbase ?_
  intro v' w' h1 h2 _ h4
  refine h v' w' ?_ h2 h4
  unfold OwnE
  rw [List.length_append, List.flatMap_append]
  simpa using h1
/-- .. at a step of a region that draws its order -/
theorem step_appE {α : Type} (e : Enc α) {ops : Array Oper} {o : Oper} {a : Act} {K : Act → World → Prop} {Q : Exit → Act → World → Prop} {E : Prop} (w : World) (hgd : o.guard = none) (s x : Operand)
    (ho : o.op = .call { callee := .builtin .append, args := #[s, x], argTypes := #[e.sl, e.sl] })
    (base : Nat) (v : Value) (l : List α) (y : α) (ad : Addr) (cap : Nat) (hs : a.eval s = v) (hown : OwnE e base w v l) (hx : a.eval x = .slice (some ad) 1 cap)
    (hp : ∀ k u, (e.enc y)[k]? = some u → w.cell? (ad.add k) = some u)
    (hlen : (l.length + 1) * e.bytes ≤ 140737488355328) (hm : l.length < 1000000000) (hbase : base ≤ w.heap.size) (H : Nat) (hH : w.heap.size = H)
    (h : ∀ (g c : Nat) w', OwnE e base w' (.slice (some ⟨g, 0, none⟩) (l.length + 1) c) (l ++ [y]) → w.grownBy w' v.ownBlock → (v.ownBlock = some g ∨ g = H) → g < w'.heap.size → K (a.put o.dst (.slice (some ⟨g, 0, none⟩) (l.length + 1) c)) w') :
    if Region.wanted o (yielded ops a.tmps) = true then Oper.wp Tryd.prog o a w K Q else E := by
  obtain ⟨i0, hi, hz0, hz1, hz2⟩ := info_parts e.inf
  refine step_append_lies w hgd s x e.sl ho base e.ty i0 e.z e.size e.bytes e.und hi hz0 hz1 hz2 e.zs e.pos v l.length (l.flatMap e.enc) hs hown ad 1 cap (e.enc y) hx (by rw [e.len, Nat.one_mul]) hp (e.one y) (by decide) (by unfold maxLen; omega) hlen hbase H hH ?_
  intro g c w' h1 h2 h3 h4
  refine h g c w' ?_ h2 h3 h4
  unfold OwnE
  rw [List.length_append, List.flatMap_append]
  simpa using h1
theorem hk_one (w : World) (z : Int) (t : TypeId) (k : Nat) (u : Value) (h : (hkE.enc (z, (none, 0, 0), (none, 0, 0)))[k]? = some u) : (w.alloc (.cells #[.int .i64 z, .slice none 0 0, .slice none 0 0] t (0, 0))).cell? ((⟨w.heap.size, 0, none⟩ : Addr).add k) = some u := by
  rw [add_at, Nat.zero_add, World.cell?_alloc_mark]
  simp only [hkE, sv] at h
  match k, h with
  | 0, h => simpa using h
  | 1, h => simpa using h
  | 2, h => simpa using h
  | k + 3, h => simp at h
theorem own_succ {α : Type} {e : Enc α} {base m : Nat} {w : World} {v : Value} {l : List α} {y : α} (h : OwnE e base w v (l ++ [y])) (hm : m = l.length) : ∃ g cap, v = .slice (some ⟨g, 0, none⟩) (m + 1) cap := by
  obtain ⟨hlen, ⟨rfl, h0⟩ | ⟨g, cap, cur, rfl, hb, hg, hn, hm', hsz, htk⟩⟩ := h
  · simp at h0
  · exact ⟨g, cap, by rw [hm, List.length_append]; rfl⟩
theorem str_one' (w : World) (H : Nat) (hH : w.heap.size = H) (s : ByteArray) (t : TypeId) (k : Nat) (u : Value) (h : (strE.enc s)[k]? = some u) : (w.alloc (.cells #[.string s] t (0, 0))).cell? ((⟨H, 0, none⟩ : Addr).add k) = some u := by
  subst hH
  rw [add_at, Nat.zero_add, World.cell?_alloc_mark]
  simp only [strE] at h
  match k, h with
  | 0, h => simpa using h
  | k + 1, h => simp at h
theorem str_one (w : World) (s : ByteArray) (t : TypeId) (k : Nat) (u : Value) (h : (strE.enc s)[k]? = some u) : (w.alloc (.cells #[.string s] t (0, 0))).cell? ((⟨w.heap.size, 0, none⟩ : Addr).add k) = some u := by
  rw [add_at, Nat.zero_add, World.cell?_alloc_mark]
  simp only [strE] at h
  match k, h with
  | 0, h => simpa using h
  | k + 1, h => simp at h
theorem PBo.old' {base pg k K : Nat} {w w2 : World} {g cap m : Nat} {qs : List Q} {c : Q} (h : PBo base pg k w (.slice (some ⟨g, 0, none⟩) (m + 1) cap) qs c) (hm : m = qs.length) (k1 : c.1.old.length + 1 ≤ K) (k2 : c.1.new.length ≤ K) (k3 : m + 1 ≤ K) (x : ByteArray) (hx : x.size ≤ 140737488351232) (hG : w.grownBy w2 (sv c.2.1).ownBlock)
    (gg n cc : Nat) (own : OwnE strE base w2 (.slice (some ⟨gg, 0, none⟩) n cc) (c.1.old ++ [x])) (H : Nat) (hsW : w.heap.size ≤ H) (hat : (sv c.2.1).ownBlock = some gg ∨ gg = H) (s : Dif.St ByteArray) (hh : (if s.open' = true then s.hs else s.hs ++ [⟨s.at', [], []⟩]) = (qs ++ [c]).map (·.1)) :
    PI base pg K (w2.setCell ⟨g, m * 3 + 1, none⟩ (.slice (some ⟨gg, 0, none⟩) n cc)) (Dif.pst s (1, x)) := by
  subst hm
  refine ⟨_, qs, .inr ⟨rfl, _, h.old (o' := (some ⟨gg, 0, none⟩, n, cc)) k1 k2 k3 x hx hG own H hsW ?_, ?_⟩⟩
  · rcases hat with h | h
    · exact .inl h.symm
    · exact .inr (by rw [← h]; rfl)
  · show Dif.onLast _ (if s.open' = true then s.hs else _) = _
    rw [hh, List.map_append, List.map_append]
    exact onLast_snoc _ _ _
theorem PBo.new' {base pg k K : Nat} {w w2 : World} {g cap m : Nat} {qs : List Q} {c : Q} (h : PBo base pg k w (.slice (some ⟨g, 0, none⟩) (m + 1) cap) qs c) (hm : m = qs.length) (k1 : c.1.new.length + 1 ≤ K) (k2 : c.1.old.length ≤ K) (k3 : m + 1 ≤ K) (x : ByteArray) (hx : x.size ≤ 140737488351232) (hG : w.grownBy w2 (sv c.2.2).ownBlock)
    (gg n cc : Nat) (own : OwnE strE base w2 (.slice (some ⟨gg, 0, none⟩) n cc) (c.1.new ++ [x])) (H : Nat) (hsW : w.heap.size ≤ H) (hat : (sv c.2.2).ownBlock = some gg ∨ gg = H) (s : Dif.St ByteArray) (hh : (if s.open' = true then s.hs else s.hs ++ [⟨s.at', [], []⟩]) = (qs ++ [c]).map (·.1))
    (kd : Nat) (h0 : ¬ kd = 0) (h1 : ¬ kd = 1) : PI base pg K (w2.setCell ⟨g, m * 3 + 2, none⟩ (.slice (some ⟨gg, 0, none⟩) n cc)) (Dif.pst s (kd, x)) := by
  subst hm
  have e : Dif.pst s (kd, x) = { hs := Dif.onLast (fun h => { h with new := h.new ++ [x] }) (if s.open' then s.hs else s.hs ++ [⟨s.at', [], []⟩]), at' := s.at', open' := true } := by
    unfold Dif.pst
    rw [if_neg h0, if_neg h1]
  rw [e]
  refine ⟨_, qs, .inr ⟨rfl, _, h.new (n' := (some ⟨gg, 0, none⟩, n, cc)) k1 k2 k3 x hx hG own H hsW ?_, ?_⟩⟩
  · rcases hat with h | h
    · exact .inl h.symm
    · exact .inr (by rw [← h]; rfl)
  · show Dif.onLast _ (if s.open' = true then s.hs else _) = _
    rw [hh, List.map_append, List.map_append]
    exact onLast_snoc _ _ _
theorem PBs.out {base pg k : Nat} {w : World} {v : Value} {qs : List Q} (h : PBs base pg k w v qs) (r : Nat) (hr : r < base) (hne : r ≠ pg) (u : Value) : PBs base pg k (w.setCell ⟨r, 0, none⟩ u) v qs := by
  refine ⟨?_, ?_, h.pl, by rw [World.size_setCell]; exact h.bl, ownsRow_setCell_below h.own (by exact hr) _, h.cnt, fun q hq => ?_⟩
  · rw [World.cell?_setCell_other (h := by intro e; cases e; exact hne rfl)]; exact h.pc
  · rw [World.frozen?_setCell]; exact h.pf
  · refine (h.ok q hq).next (by rw [World.size_setCell]; exact Nat.le_refl _) (fun b hb hbb _ => ?_) (fun _ _ _ h => h)
    rw [Below.heap_setCell _ _ _ _ (by dsimp only; omega)]
theorem PI.cell {base pg k : Nat} {w : World} {s : Dif.St ByteArray} (h : PI base pg k w s) (hk : k ≤ 281474976710656) : ∃ v qs, PBs base pg k w v qs ∧ s.hs = qs.map (·.1) := by
  obtain ⟨v, qs, ⟨-, h2, h3⟩ | ⟨-, c, h2, h3⟩⟩ := h
  · exact ⟨v, qs, h2, h3⟩
  · exact ⟨v, qs ++ [c], h2.shut hk, h3⟩

theorem opened {k m b off : Nat} {w wr w2 : World} {v : Value} {qs : List Q} {x : ByteArray} {kd g cap' : Nat} {t : TypeId} {o : Obj} (at' : Int) (hP : PBs (w.heap.size + 2) (w.heap.size + 1) k wr v qs) (hB : Below (w.heap.size + 1) (w.alloc (.cells #[.slice none 0 0] t (0, 0))) wr) (hm : m = qs.length) (hb : b < w.heap.size)
    (c0 : wr.cell? ⟨b, off, none⟩ = some (.int .i64 (kd : Nat))) (c1 : wr.cell? ⟨b, off + 1, none⟩ = some (.string x)) (gr : (wr.alloc o).grownBy w2 v.ownBlock)
    (own : OwnE hkE (w.heap.size + 2) w2 (.slice (some ⟨g, 0, none⟩) (m + 1) cap') (qs.map Q.raw ++ [(at', (none, 0, 0), (none, 0, 0))]))
    (hat : (Value.slice (some ⟨g, 0, none⟩) (m + 1) cap').ownBlock = v.ownBlock ∨ (Value.slice (some ⟨g, 0, none⟩) (m + 1) cap').ownBlock = some (wr.alloc o).heap.size) :
    Hid (PBo (w.heap.size + 2) (w.heap.size + 1) (k + 1) (w2.setCell ⟨w.heap.size + 1, 0, none⟩ (.slice (some ⟨g, 0, none⟩) (m + 1) cap')) (.slice (some ⟨g, 0, none⟩) (m + 1) cap') qs ((⟨at', [], []⟩, (none, 0, 0), (none, 0, 0)) : Q)) ∧
    Hid (Below (w.heap.size + 1) (w.alloc (.cells #[.slice none 0 0] t (0, 0))) (w2.setCell ⟨w.heap.size + 1, 0, none⟩ (.slice (some ⟨g, 0, none⟩) (m + 1) cap'))) ∧
    (w2.setCell ⟨w.heap.size + 1, 0, none⟩ (.slice (some ⟨g, 0, none⟩) (m + 1) cap')).cell? ⟨w.heap.size + 1, 0, none⟩ = some (.slice (some ⟨g, 0, none⟩) (m + 1) cap') ∧
    (w2.setCell ⟨w.heap.size + 1, 0, none⟩ (.slice (some ⟨g, 0, none⟩) (m + 1) cap')).cell? ⟨g, m * 3 + 1, none⟩ = some (.slice none 0 0) ∧
    (w2.setCell ⟨w.heap.size + 1, 0, none⟩ (.slice (some ⟨g, 0, none⟩) (m + 1) cap')).cell? ⟨g, m * 3 + 2, none⟩ = some (.slice none 0 0) ∧
    (∀ i, (w2.setCell ⟨w.heap.size + 1, 0, none⟩ (.slice (some ⟨g, 0, none⟩) (m + 1) cap')).frozen? ⟨g, i, none⟩ = false) ∧
    g < (w2.setCell ⟨w.heap.size + 1, 0, none⟩ (.slice (some ⟨g, 0, none⟩) (m + 1) cap')).heap.size ∧
    (w2.setCell ⟨w.heap.size + 1, 0, none⟩ (.slice (some ⟨g, 0, none⟩) (m + 1) cap')).cell? ⟨b, off, none⟩ = some (.int .i64 (kd : Nat)) ∧
    (w2.setCell ⟨w.heap.size + 1, 0, none⟩ (.slice (some ⟨g, 0, none⟩) (m + 1) cap')).cell? ⟨b, off + 1, none⟩ = some (.string x) ∧
    w2.cell? ⟨w.heap.size + 1, 0, none⟩ = some v ∧ w2.frozen? ⟨w.heap.size + 1, 0, none⟩ = false ∧
    w.heap.size + 2 ≤ g ∧ w.heap.size + 2 ≤ w2.heap.size := by
  subst hm
  have G2 : wr.grownBy w2 v.ownBlock := grow_trans (World.grownBy_alloc wr o none) gr
  have hv : v.ownBlock ≠ some (w.heap.size + 1) := fun e => by have := own_block hP.own _ e; omega
  have P3 := hP.open at' G2 own (wr.alloc o).heap.size (by simp) hat
  obtain ⟨g', cap2, e, q1, q2, q3, q4, q5, -, -⟩ := P3.cells
  cases e
  have hbl := hP.bl
  have hB3 := (hB.grown G2 (by omega) fun z hz => by have := own_block hP.own z hz; omega).setCell (p := ⟨w.heap.size + 1, 0, none⟩) (Nat.le_refl _) (.slice (some ⟨g, 0, none⟩) (qs.length + 1) cap')
  have s1 := G2.cell hP.pc (Ne.symm hv)
  have s2 : w2.frozen? ⟨w.heap.size + 1, 0, none⟩ = false := by rw [G2.frozen_far ⟨w.heap.size + 1, 0, none⟩ (by dsimp only; omega) (Ne.symm hv)]; exact hP.pf
  have old : ∀ y u, wr.cell? ⟨b, y, none⟩ = some u → (w2.setCell ⟨w.heap.size + 1, 0, none⟩ (.slice (some ⟨g, 0, none⟩) (qs.length + 1) cap')).cell? ⟨b, y, none⟩ = some u := fun y u h => by
    rw [hB3.cell (p := ⟨b, y, none⟩) (by dsimp only; omega), ← hB.cell (p := ⟨b, y, none⟩) (by dsimp only; omega), h]
  exact ⟨Lib.hid P3, Lib.hid hB3, P3.pc, q1, q2, q3, q4, old _ _ c0, old _ _ c1, s1, s2, q5, by have := G2.size; omega⟩

def PtPost (hs : List (Dif.Hk ByteArray)) (w : World) (e : Ending) (w' : World) : Prop :=
  ∃ p cap, e = .returned (.agg #[.slice p hs.length cap]) ∧ (∀ W : World, w'.heap.size ≤ W.heap.size → (∀ k, w.heap.size ≤ k → k < w'.heap.size → W.heap[k]? = w'.heap[k]?) → Ptc W p hs) ∧ (p = none → cap = 0) ∧ hs.length ≤ cap ∧ Below w.heap.size w w'

end Go.Proofs.YtcheggdfcdokiaaDoor
