/-
  The reference's PatchOf, walked.
-/
import Derived.Test.YtbgnckbgpiajjaaDifP
import Derived.Deep.RegionHeld3
namespace Go.Proofs.Ytbgnckbgpiajjaa
open Go.RowKit
set_option maxRecDepth 4000

theorem onLast_snoc (f : Dif.Hk ByteArray → Dif.Hk ByteArray) (l : List (Dif.Hk ByteArray)) (h : Dif.Hk ByteArray) : Dif.onLast f (l ++ [h]) = l ++ [f h] := by
  induction l with
  | nil => rfl
  | cons x l ih =>
    cases l with
    | nil => rfl
    | cons y l => simp only [List.cons_append, Dif.onLast] at ih ⊢; rw [ih]
/-- the state behind k steps -/
def pstAt (l : List (Nat × ByteArray)) (k : Nat) : Dif.St ByteArray := (l.take k).foldl Dif.pst ⟨[], 0, false⟩
theorem pstAt_next (l : List (Nat × ByteArray)) (k : Nat) (h : k < l.length) : pstAt l (k + 1) = Dif.pst (pstAt l k) l[k] := by
  unfold pstAt
  rw [List.take_succ_eq_append_getElem h, List.foldl_append]; rfl
theorem pstAt_end (l : List (Nat × ByteArray)) (k : Nat) (h : l.length ≤ k) : (pstAt l k).hs = Dif.pof l := by
  unfold pstAt Dif.pof
  rw [List.take_of_length_le h]
theorem pst_at (s : Dif.St ByteArray) (x : Nat × ByteArray) : (Dif.pst s x).at' ≤ s.at' + 1 := by
  unfold Dif.pst
  split
  · exact Nat.le_refl _
  · split
    · exact Nat.le_refl _
    · exact Nat.le_succ _
theorem pstAt_at (l : List (Nat × ByteArray)) (k : Nat) (h : k ≤ l.length) : (pstAt l k).at' ≤ k := by
  induction k with
  | zero => exact Nat.le_refl _
  | succ k ih =>
    rw [pstAt_next l k h]
    have := pst_at (pstAt l k) l[k]
    have := ih (by omega)
    omega
/-- what lies in memory behind k steps -/
def PI (base pg k : Nat) (w : World) (s : Dif.St ByteArray) : Prop :=
  ∃ v qs, (s.open' = false ∧ PBs base pg k w v qs ∧ s.hs = qs.map (·.1)) ∨ (s.open' = true ∧ ∃ c, PBo base pg k w v qs c ∧ s.hs = (qs ++ [c]).map (·.1))
theorem PI.keep {base pg k : Nat} {w : World} {s : Dif.St ByteArray} (h : PI base pg k w s) (hk : k ≤ 281474976710656) (x : ByteArray) : PI base pg (k + 1) w (Dif.pst s (0, x)) := by
  obtain ⟨v, qs, ⟨-, h2, h3⟩ | ⟨-, c, h2, h3⟩⟩ := h
  · exact ⟨v, qs, .inl ⟨rfl, h2.next (Nat.le_succ _), h3⟩⟩
  · exact ⟨v, qs ++ [c], .inl ⟨rfl, (h2.shut hk).next (Nat.le_succ _), h3⟩⟩
/-- an element of a slice of the call's own is appended; where the new one lies -/
theorem wp_appE_at {α : Type} (e : Enc α) {ops : Array Oper} {rest : List Oper} {o : Oper} {a : Act} {Q : Exit → Act → World → Prop} {w : World} (hgd : o.guard = none) (s x : Operand)
    (ho : o.op = .call { callee := .builtin .append, args := #[s, x], argTypes := #[e.sl, e.sl] })
    (base : Nat) (v : Value) (l : List α) (y : α) (ad : Addr) (cap : Nat) (hs : a.eval s = v) (hown : OwnE e base w v l) (hx : a.eval x = .slice (some ad) 1 cap)
    (hp : ∀ k u, (e.enc y)[k]? = some u → w.cell? (ad.add k) = some u)
    (hlen : (l.length + 1) * e.bytes ≤ 140737488355328) (hm : l.length < 1000000000) (hbase : base ≤ w.heap.size)
    (h : ∀ v' w', OwnE e base w' v' (l ++ [y]) → w.grownBy w' v.ownBlock → (v'.ownBlock = v.ownBlock ∨ v'.ownBlock = some w.heap.size) → wpList Try.prog ops Q rest (a.put o.dst v') w') : wpList Try.prog ops Q (o :: rest) a w := by
  obtain ⟨i0, hi, hz0, hz1, hz2⟩ := info_parts e.inf
  refine wpList_append_own_at _ hgd s x e.sl ho base e.ty i0 e.z e.size e.bytes e.und hi hz0 hz1 hz2 e.zs e.pos v l.length (l.flatMap e.enc) hs hown ad 1 cap (e.enc y) hx (by rw [e.len, Nat.one_mul]) hp (e.one y) (by unfold maxLen; omega) hlen hbase ?_
  intro v' w' h1 h2 _ h4
  refine h v' w' ?_ h2 h4
  unfold OwnE
  rw [List.length_append, List.flatMap_append]
  simpa using h1
/-- .. at a step of a region that draws its order -/
theorem step_appE {α : Type} (e : Enc α) {ops : Array Oper} {o : Oper} {a : Act} {K : Act → World → Prop} {Q : Exit → Act → World → Prop} {E : Prop} (w : World) (hgd : o.guard = none) (s x : Operand)
    (ho : o.op = .call { callee := .builtin .append, args := #[s, x], argTypes := #[e.sl, e.sl] })
    (base : Nat) (v : Value) (l : List α) (y : α) (ad : Addr) (cap : Nat) (hs : a.eval s = v) (hown : OwnE e base w v l) (hx : a.eval x = .slice (some ad) 1 cap)
    (hp : ∀ k u, (e.enc y)[k]? = some u → w.cell? (ad.add k) = some u)
    (hlen : (l.length + 1) * e.bytes ≤ 140737488355328) (hm : l.length < 1000000000) (hbase : base ≤ w.heap.size) (H : Nat) (hH : w.heap.size = H)
    (h : ∀ (g c : Nat) w', OwnE e base w' (.slice (some ⟨g, 0, none⟩) (l.length + 1) c) (l ++ [y]) → w.grownBy w' v.ownBlock → (v.ownBlock = some g ∨ g = H) → g < w'.heap.size → K (a.put o.dst (.slice (some ⟨g, 0, none⟩) (l.length + 1) c)) w') :
    if Region.wanted o (yielded ops a.tmps) = true then Oper.wp Try.prog o a w K Q else E := by
  obtain ⟨i0, hi, hz0, hz1, hz2⟩ := info_parts e.inf
  refine step_append_lies w hgd s x e.sl ho base e.ty i0 e.z e.size e.bytes e.und hi hz0 hz1 hz2 e.zs e.pos v l.length (l.flatMap e.enc) hs hown ad 1 cap (e.enc y) hx (by rw [e.len, Nat.one_mul]) hp (e.one y) (by decide) (by unfold maxLen; omega) hlen hbase H hH ?_
  intro g c w' h1 h2 h3 h4
  refine h g c w' ?_ h2 h3 h4
  unfold OwnE
  rw [List.length_append, List.flatMap_append]
  simpa using h1
theorem hk_one (w : World) (z : Int) (t : TypeId) (k : Nat) (u : Value) (h : (hkE.enc (z, (none, 0, 0), (none, 0, 0)))[k]? = some u) : (w.alloc (.cells #[.int .i64 z, .slice none 0 0, .slice none 0 0] t (0, 0))).cell? ((⟨w.heap.size, 0, none⟩ : Addr).add k) = some u := by
  rw [add_at, Nat.zero_add, World.cell?_alloc_mark]
  simp only [hkE, sv] at h
  match k, h with
  | 0, h => simpa using h
  | 1, h => simpa using h
  | 2, h => simpa using h
  | k + 3, h => simp at h
theorem own_succ {α : Type} {e : Enc α} {base m : Nat} {w : World} {v : Value} {l : List α} {y : α} (h : OwnE e base w v (l ++ [y])) (hm : m = l.length) : ∃ g cap, v = .slice (some ⟨g, 0, none⟩) (m + 1) cap := by
  obtain ⟨hlen, ⟨rfl, h0⟩ | ⟨g, cap, cur, rfl, hb, hg, hn, hm', hsz, htk⟩⟩ := h
  · simp at h0
  · exact ⟨g, cap, by rw [hm, List.length_append]; rfl⟩
theorem str_one' (w : World) (H : Nat) (hH : w.heap.size = H) (s : ByteArray) (t : TypeId) (k : Nat) (u : Value) (h : (strE.enc s)[k]? = some u) : (w.alloc (.cells #[.string s] t (0, 0))).cell? ((⟨H, 0, none⟩ : Addr).add k) = some u := by
  subst hH
  rw [add_at, Nat.zero_add, World.cell?_alloc_mark]
  simp only [strE] at h
  match k, h with
  | 0, h => simpa using h
  | k + 1, h => simp at h
theorem str_one (w : World) (s : ByteArray) (t : TypeId) (k : Nat) (u : Value) (h : (strE.enc s)[k]? = some u) : (w.alloc (.cells #[.string s] t (0, 0))).cell? ((⟨w.heap.size, 0, none⟩ : Addr).add k) = some u := by
  rw [add_at, Nat.zero_add, World.cell?_alloc_mark]
  simp only [strE] at h
  match k, h with
  | 0, h => simpa using h
  | k + 1, h => simp at h
theorem row_step {w : World} {b off i : Nat} {l : List (Nat × ByteArray)} (hi : i < l.length) (h : ∀ k u, (stE.enc l[i])[k]? = some u → w.cell? ⟨b, off + i * stE.size + k, none⟩ = some u) :
    w.cell? ⟨b, off + i * 2, none⟩ = some (.int .i64 (l[i].1 : Nat)) ∧ w.cell? ⟨b, off + i * 2 + 1, none⟩ = some (.string l[i].2) :=
  ⟨h 0 _ rfl, h 1 _ rfl⟩
theorem PBo.old' {base pg k K : Nat} {w w2 : World} {g cap m : Nat} {qs : List Q} {c : Q} (h : PBo base pg k w (.slice (some ⟨g, 0, none⟩) (m + 1) cap) qs c) (hm : m = qs.length) (k1 : c.1.old.length + 1 ≤ K) (k2 : c.1.new.length ≤ K) (k3 : m + 1 ≤ K) (x : ByteArray) (hx : x.size ≤ 140737488351232) (hG : w.grownBy w2 (sv c.2.1).ownBlock)
    (gg n cc : Nat) (own : OwnE strE base w2 (.slice (some ⟨gg, 0, none⟩) n cc) (c.1.old ++ [x])) (H : Nat) (hsW : w.heap.size ≤ H) (hat : (sv c.2.1).ownBlock = some gg ∨ gg = H) (s : Dif.St ByteArray) (hh : (if s.open' = true then s.hs else s.hs ++ [⟨s.at', [], []⟩]) = (qs ++ [c]).map (·.1)) :
    PI base pg K (w2.setCell ⟨g, m * 3 + 1, none⟩ (.slice (some ⟨gg, 0, none⟩) n cc)) (Dif.pst s (1, x)) := by
  subst hm
  refine ⟨_, qs, .inr ⟨rfl, _, h.old (o' := (some ⟨gg, 0, none⟩, n, cc)) k1 k2 k3 x hx hG own H hsW ?_, ?_⟩⟩
  · rcases hat with h | h
    · exact .inl h.symm
    · exact .inr (by rw [← h]; rfl)
  · show Dif.onLast _ (if s.open' = true then s.hs else _) = _
    rw [hh, List.map_append, List.map_append]
    exact onLast_snoc _ _ _
theorem PBo.new' {base pg k K : Nat} {w w2 : World} {g cap m : Nat} {qs : List Q} {c : Q} (h : PBo base pg k w (.slice (some ⟨g, 0, none⟩) (m + 1) cap) qs c) (hm : m = qs.length) (k1 : c.1.new.length + 1 ≤ K) (k2 : c.1.old.length ≤ K) (k3 : m + 1 ≤ K) (x : ByteArray) (hx : x.size ≤ 140737488351232) (hG : w.grownBy w2 (sv c.2.2).ownBlock)
    (gg n cc : Nat) (own : OwnE strE base w2 (.slice (some ⟨gg, 0, none⟩) n cc) (c.1.new ++ [x])) (H : Nat) (hsW : w.heap.size ≤ H) (hat : (sv c.2.2).ownBlock = some gg ∨ gg = H) (s : Dif.St ByteArray) (hh : (if s.open' = true then s.hs else s.hs ++ [⟨s.at', [], []⟩]) = (qs ++ [c]).map (·.1))
    (kd : Nat) (h0 : ¬ kd = 0) (h1 : ¬ kd = 1) : PI base pg K (w2.setCell ⟨g, m * 3 + 2, none⟩ (.slice (some ⟨gg, 0, none⟩) n cc)) (Dif.pst s (kd, x)) := by
  subst hm
  have e : Dif.pst s (kd, x) = { hs := Dif.onLast (fun h => { h with new := h.new ++ [x] }) (if s.open' then s.hs else s.hs ++ [⟨s.at', [], []⟩]), at' := s.at', open' := true } := by
    unfold Dif.pst
    rw [if_neg h0, if_neg h1]
  rw [e]
  refine ⟨_, qs, .inr ⟨rfl, _, h.new (n' := (some ⟨gg, 0, none⟩, n, cc)) k1 k2 k3 x hx hG own H hsW ?_, ?_⟩⟩
  · rcases hat with h | h
    · exact .inl h.symm
    · exact .inr (by rw [← h]; rfl)
  · show Dif.onLast _ (if s.open' = true then s.hs else _) = _
    rw [hh, List.map_append, List.map_append]
    exact onLast_snoc _ _ _
theorem PBs.out {base pg k : Nat} {w : World} {v : Value} {qs : List Q} (h : PBs base pg k w v qs) (r : Nat) (hr : r < base) (hne : r ≠ pg) (u : Value) : PBs base pg k (w.setCell ⟨r, 0, none⟩ u) v qs := by
  refine ⟨?_, ?_, h.pl, by rw [World.size_setCell]; exact h.bl, ownsRow_setCell_below h.own (by exact hr) _, h.cnt, fun q hq => ?_⟩
  · rw [World.cell?_setCell_other (h := by intro e; cases e; exact hne rfl)]; exact h.pc
  · rw [World.frozen?_setCell]; exact h.pf
  · refine (h.ok q hq).next (by rw [World.size_setCell]; exact Nat.le_refl _) (fun b hb hbb _ => ?_) (fun _ _ _ h => h)
    rw [Below.heap_setCell _ _ _ _ (by dsimp only; omega)]
theorem PI.cell {base pg k : Nat} {w : World} {s : Dif.St ByteArray} (h : PI base pg k w s) (hk : k ≤ 281474976710656) : ∃ v qs, PBs base pg k w v qs ∧ s.hs = qs.map (·.1) := by
  obtain ⟨v, qs, ⟨-, h2, h3⟩ | ⟨-, c, h2, h3⟩⟩ := h
  · exact ⟨v, qs, h2, h3⟩
  · exact ⟨v, qs ++ [c], h2.shut hk, h3⟩

theorem opened {k m b off : Nat} {w wr w2 : World} {v : Value} {qs : List Q} {x : ByteArray} {kd g cap' : Nat} {t : TypeId} {o : Obj} (at' : Int) (hP : PBs (w.heap.size + 2) (w.heap.size + 1) k wr v qs) (hB : Below (w.heap.size + 1) (w.alloc (.cells #[.slice none 0 0] t (0, 0))) wr) (hm : m = qs.length) (hb : b < w.heap.size)
    (c0 : wr.cell? ⟨b, off, none⟩ = some (.int .i64 (kd : Nat))) (c1 : wr.cell? ⟨b, off + 1, none⟩ = some (.string x)) (gr : (wr.alloc o).grownBy w2 v.ownBlock)
    (own : OwnE hkE (w.heap.size + 2) w2 (.slice (some ⟨g, 0, none⟩) (m + 1) cap') (qs.map Q.raw ++ [(at', (none, 0, 0), (none, 0, 0))]))
    (hat : (Value.slice (some ⟨g, 0, none⟩) (m + 1) cap').ownBlock = v.ownBlock ∨ (Value.slice (some ⟨g, 0, none⟩) (m + 1) cap').ownBlock = some (wr.alloc o).heap.size) :
    Hid (PBo (w.heap.size + 2) (w.heap.size + 1) (k + 1) (w2.setCell ⟨w.heap.size + 1, 0, none⟩ (.slice (some ⟨g, 0, none⟩) (m + 1) cap')) (.slice (some ⟨g, 0, none⟩) (m + 1) cap') qs ((⟨at', [], []⟩, (none, 0, 0), (none, 0, 0)) : Q)) ∧
    Hid (Below (w.heap.size + 1) (w.alloc (.cells #[.slice none 0 0] t (0, 0))) (w2.setCell ⟨w.heap.size + 1, 0, none⟩ (.slice (some ⟨g, 0, none⟩) (m + 1) cap'))) ∧
    (w2.setCell ⟨w.heap.size + 1, 0, none⟩ (.slice (some ⟨g, 0, none⟩) (m + 1) cap')).cell? ⟨w.heap.size + 1, 0, none⟩ = some (.slice (some ⟨g, 0, none⟩) (m + 1) cap') ∧
    (w2.setCell ⟨w.heap.size + 1, 0, none⟩ (.slice (some ⟨g, 0, none⟩) (m + 1) cap')).cell? ⟨g, m * 3 + 1, none⟩ = some (.slice none 0 0) ∧
    (w2.setCell ⟨w.heap.size + 1, 0, none⟩ (.slice (some ⟨g, 0, none⟩) (m + 1) cap')).cell? ⟨g, m * 3 + 2, none⟩ = some (.slice none 0 0) ∧
    (∀ i, (w2.setCell ⟨w.heap.size + 1, 0, none⟩ (.slice (some ⟨g, 0, none⟩) (m + 1) cap')).frozen? ⟨g, i, none⟩ = false) ∧
    g < (w2.setCell ⟨w.heap.size + 1, 0, none⟩ (.slice (some ⟨g, 0, none⟩) (m + 1) cap')).heap.size ∧
    (w2.setCell ⟨w.heap.size + 1, 0, none⟩ (.slice (some ⟨g, 0, none⟩) (m + 1) cap')).cell? ⟨b, off, none⟩ = some (.int .i64 (kd : Nat)) ∧
    (w2.setCell ⟨w.heap.size + 1, 0, none⟩ (.slice (some ⟨g, 0, none⟩) (m + 1) cap')).cell? ⟨b, off + 1, none⟩ = some (.string x) ∧
    w2.cell? ⟨w.heap.size + 1, 0, none⟩ = some v ∧ w2.frozen? ⟨w.heap.size + 1, 0, none⟩ = false ∧
    w.heap.size + 2 ≤ g ∧ w.heap.size + 2 ≤ w2.heap.size := by
  subst hm
  have G2 : wr.grownBy w2 v.ownBlock := grow_trans (World.grownBy_alloc wr o none) gr
  have hv : v.ownBlock ≠ some (w.heap.size + 1) := fun e => by have := own_block hP.own _ e; omega
  have P3 := hP.open at' G2 own (wr.alloc o).heap.size (by simp) hat
  obtain ⟨g', cap2, e, q1, q2, q3, q4, q5, -, -⟩ := P3.cells
  cases e
  have hbl := hP.bl
  have hB3 := (hB.grown G2 (by omega) fun z hz => by have := own_block hP.own z hz; omega).setCell (p := ⟨w.heap.size + 1, 0, none⟩) (Nat.le_refl _) (.slice (some ⟨g, 0, none⟩) (qs.length + 1) cap')
  have s1 := G2.cell hP.pc (Ne.symm hv)
  have s2 : w2.frozen? ⟨w.heap.size + 1, 0, none⟩ = false := by rw [G2.frozen_far ⟨w.heap.size + 1, 0, none⟩ (by dsimp only; omega) (Ne.symm hv)]; exact hP.pf
  have old : ∀ y u, wr.cell? ⟨b, y, none⟩ = some u → (w2.setCell ⟨w.heap.size + 1, 0, none⟩ (.slice (some ⟨g, 0, none⟩) (qs.length + 1) cap')).cell? ⟨b, y, none⟩ = some u := fun y u h => by
    rw [hB3.cell (p := ⟨b, y, none⟩) (by dsimp only; omega), ← hB.cell (p := ⟨b, y, none⟩) (by dsimp only; omega), h]
  exact ⟨Lib.hid P3, Lib.hid hB3, P3.pc, q1, q2, q3, q4, old _ _ c0, old _ _ c1, s1, s2, q5, by have := G2.size; omega⟩

def PtPost (hs : List (Dif.Hk ByteArray)) (w : World) (e : Ending) (w' : World) : Prop :=
  ∃ p cap, e = .returned (.agg #[.slice p hs.length cap]) ∧ (∀ W : World, w'.heap.size ≤ W.heap.size → (∀ k, w.heap.size ≤ k → k < w'.heap.size → W.heap[k]? = w'.heap[k]?) → Ptc W p hs) ∧ (p = none → cap = 0) ∧ hs.length ≤ cap ∧ Below w.heap.size w w'

set_option maxHeartbeats 4000000 in
theorem patchOf_any (p : Option Addr) (l : List (Nat × ByteArray)) (n cap : Nat) (w : World) (hn : n = l.length) (hp : Row stE w p l) (hs : ∀ x ∈ l, x.2.size ≤ 140737488351232) (hl : l.length ≤ 4000000) :
    Calls Try.prog 89 #[.slice p n cap] w (PtPost (Dif.pof l) w) := by
  subst hn
  have HP := Lib.hid hp
  have HS := Lib.hid hs
  clear hp hs
  go_enter Try.func89, Try.ntmps89
  go_wp2_with fail
  go_loopw [4, 5, 6] (fun at' op i wr => ∃ k : Nat, k ≤ l.length ∧ i = .int .i64 k ∧ at' = .int .i64 ((pstAt l k).at' : Nat) ∧ op = .bool (pstAt l k).open' ∧
    Hid (PI (w.heap.size + 2) (w.heap.size + 1) k wr (pstAt l k)) ∧ Hid (Below (w.heap.size + 1) (w.alloc (.cells #[.slice none 0 0] 41 (0, 0))) wr)) (fun _ _ i _ => l.length - (intOf i).toNat)
  case atStart =>
    refine ⟨0, Nat.zero_le _, rfl, rfl, rfl, Lib.hid ⟨_, [], .inl ⟨rfl, PBs.start _ _ _ ?_ ?_ (by omega) (by simp), rfl⟩⟩, Lib.hid ((Below.refl _ _).alloc (by simp) _)⟩
    · rw [show w.heap.size + 1 = (w.alloc (.cells #[.slice none 0 0] 41 (0, 0))).heap.size by simp, World.cell?_alloc_mark]; rfl
    · rw [show w.heap.size + 1 = (w.alloc (.cells #[.slice none 0 0] 41 (0, 0))).heap.size by simp, World.frozen?_alloc_mark]; rfl
  case round =>
    obtain ⟨k, hk, rfl, rfl, rfl, hI, hB⟩ := hrel
    have hat := pstAt_at l k hk
    have hzr : w.heap.size + 1 ≤ wr.heap.size := by have := hB.out.size; simpa using this
    by_cases hlt : k < l.length
    · obtain ⟨b, off, rfl, hb, hc⟩ := HP.out.cell hlt
      obtain ⟨c0, c1⟩ := row_step hlt hc
      have hsm := HS.out _ (List.getElem_mem hlt)
      have hnx := pstAt_next l k hlt
      have old : ∀ o, wr.cell? ⟨b, o, none⟩ = w.cell? ⟨b, o, none⟩ := fun o => by
        rw [hB.out.cell (p := ⟨b, o, none⟩) (by dsimp only; omega)]
        exact ((Below.refl w.heap.size w).alloc (Nat.le_refl _) _).cell (p := ⟨b, o, none⟩) hb
      rw [← old] at c0 c1
      obtain ⟨⟨kd, x⟩, hx⟩ : ∃ y, y = l[k] := ⟨_, rfl⟩
      rw [← hx] at c0 c1 hsm hnx
      dsimp only at c0 c1 hsm
      have b7 : (0 : Int) ≤ (k : Int) := by omega
      have b8 : (k : Int) < (l.length : Int) := by omega
      clear old hc hx
      have HN := Lib.hid hnx
      clear hnx
      obtain ⟨s, hs⟩ : ∃ s, s = pstAt l k := ⟨_, rfl⟩
      rw [← hs] at hI HN hat ⊢
      clear hs
      by_cases h0 : kd = 0
      · subst h0
        have hI' := Lib.hid (hI.out.keep (by omega) x)
        rw [← HN.out] at hI'
        have e1 : (pstAt l (k + 1)).at' = s.at' + 1 := by rw [HN.out]; rfl
        have e2 : (pstAt l (k + 1)).open' = false := by rw [HN.out]; rfl
        have E := Lib.hid (And.intro e1 e2)
        clear e1 e2
        go_wp2_with fail
        go_roundw
        case rel => exact ⟨k + 1, hlt, by go_num, by rw [E.out.1]; go_num, by rw [E.out.2], hI', hB⟩
        case measure => first | (simp [intOf]; done) | (simp [intOf]; omega)
      · have g0 : ((kd : Int) == 0) = false := by rw [beq_eq_false_iff_ne]; omega
        obtain ⟨v, qs, ⟨ho, hP, hh⟩ | ⟨ho, c, hP, hh⟩⟩ := hI.out
        · rw [ho]
          obtain ⟨pv, cv, hv, -⟩ := hP.ptc
          rw [List.length_map] at hv
          subst hv
          have pc := hP.pc
          have m0 : (0 : Int) ≤ (qs.length : Int) := by omega
          have m2 : qs.length ≤ 4000000 := by have := hP.cnt; omega
          have m3 : (qs.length : Int) < (qs.length : Int) + 1 := by omega
          have m4 := hP.cnt
          have HP0 := Lib.hid hP
          have HH : Hid ((if s.open' = true then s.hs else s.hs ++ [⟨s.at', [], []⟩]) = (qs ++ [((⟨(s.at' : Int), [], []⟩, (none, 0, 0), (none, 0, 0)) : Q)]).map (·.1)) := Lib.hid (by rw [if_neg (by rw [ho]; decide), hh, List.map_append]; rfl)
          obtain ⟨m, hm⟩ : ∃ m, m = qs.length := ⟨_, rfl⟩
          rw [← hm] at m0 m2 m3 m4 pc HP0
          have HM := Lib.hid hm
          clear hP hh ho hm
          by_cases h1 : kd = 1
          · subst h1
            clear h0 g0
            go_wp2_with (at_builtin; refine wp_appE_at hkE rfl (.tmp 25) (.tmp 28) rfl (w.heap.size + 2) _ (qs.map Q.raw) ((s.at' : Int), (none, 0, 0), (none, 0, 0)) _ _ rfl (HP0.out.own.alloc _) rfl (hk_one _ _ _) (by have := HM.out; simp [hkE]; omega) (by have := HM.out; simp; omega) (by simp; omega) ?_; intro v2 w2 own2 gr2 hat2
                         obtain ⟨g, cap', rfl⟩ := own_succ (m := m) own2 (by rw [List.length_map]; exact HM.out)
                         obtain ⟨HP3, HB3, pc3, q1, q2, q3, q4, c03, c13, s1, s2, q5, hz3⟩ := opened s.at' HP0.out hB.out HM.out hb c0 c1 gr2 own2 hat2)
            have G0 := World.grownBy_alloc (w2.setCell ⟨w.heap.size + 1, 0, none⟩ (.slice (some ⟨g, 0, none⟩) (m + 1) cap')) (.cells #[.string x] 9 (0, 0)) none
            have qa := G0.cell q1 (by simp)
            have q9 : g < w2.heap.size := by simpa using q4
            go_region_law (skip; refine step_appE strE _ (by rfl) (.tmp 48) (.tmp 54) (by rfl) (w.heap.size + 2) (.slice none 0 0) [] x ⟨w2.heap.size, 0, none⟩ 1 (by rfl) (ownE_nil strE _ _) (by rfl) (str_one' _ w2.heap.size (by first | rfl | simp) x _) (by simp [strE]) (by simp) (by simp; omega) (w2.heap.size + 1) (by simp) ?_; intro gg cc w1 hown1 hgrow hat hlz
                           have G1 : World.grownBy (w2.setCell ⟨w.heap.size + 1, 0, none⟩ (.slice (some ⟨g, 0, none⟩) (m + 1) cap')) w1 (Value.ownBlock (.slice none 0 0)) := by refine grow_trans ?_ hgrow; exact ⟨G0.os, G0.tape, G0.output, G0.size, G0.block⟩
                           have z1 := G1.cell q1 (fun e => by cases e)
                           have z2 : w1.frozen? ⟨g, m * 3 + 1, none⟩ = false := by rw [G1.frozen_far ⟨g, m * 3 + 1, none⟩ q4 (fun e => by cases e), q3])
            all_goals
              have hI' := Lib.hid (HP3.out.old' (K := k + 1) HM.out (by show 0 + 1 ≤ k + 1; omega) (by show 0 ≤ k + 1; omega) (by omega) x hsm G1 gg 1 cc hown1 (w2.heap.size + 1) (by simp) hat s HH.out)
              have hB' := Lib.hid ((HB3.out.grown G1 (by simp; omega) fun z hz => by cases hz).setCell (p := ⟨g, m * 3 + 1, none⟩) (by dsimp only; omega) (.slice (some ⟨gg, 0, none⟩) 1 cc))
              rw [← HN.out] at hI'
              have e1 : (pstAt l (k + 1)).at' = s.at' + 1 := by rw [HN.out]; rfl
              have e2 : (pstAt l (k + 1)).open' = true := by rw [HN.out]; rfl
              have E := Lib.hid (And.intro e1 e2)
              clear e1 e2 z1 z2 hat
              go_wp2_with fail
              go_roundw
              case rel => exact ⟨k + 1, hlt, by go_num, by first | (rw [E.out.1]; done) | (rw [E.out.1]; go_num), by rw [E.out.2], hI', hB'⟩
              case measure => first | (simp [intOf]; done) | (simp [intOf]; omega)
          · have g1 : ((kd : Int) == 1) = false := by rw [beq_eq_false_iff_ne]; omega
            go_wp2_with (at_builtin; refine wp_appE_at hkE rfl (.tmp 25) (.tmp 28) rfl (w.heap.size + 2) _ (qs.map Q.raw) ((s.at' : Int), (none, 0, 0), (none, 0, 0)) _ _ rfl (HP0.out.own.alloc _) rfl (hk_one _ _ _) (by have := HM.out; simp [hkE]; omega) (by have := HM.out; simp; omega) (by simp; omega) ?_; intro v2 w2 own2 gr2 hat2
                         obtain ⟨g, cap', rfl⟩ := own_succ (m := m) own2 (by rw [List.length_map]; exact HM.out)
                         obtain ⟨HP3, HB3, pc3, q1, q2, q3, q4, c03, c13, s1, s2, q5, hz3⟩ := opened s.at' HP0.out hB.out HM.out hb c0 c1 gr2 own2 hat2)
            have G0 := World.grownBy_alloc (w2.setCell ⟨w.heap.size + 1, 0, none⟩ (.slice (some ⟨g, 0, none⟩) (m + 1) cap')) (.cells #[.string x] 9 (0, 0)) none
            have qa := G0.cell q2 (by simp)
            have q9 : g < w2.heap.size := by simpa using q4
            go_region_law (skip; refine step_appE strE _ (by rfl) (.tmp 64) (.tmp 70) (by rfl) (w.heap.size + 2) (.slice none 0 0) [] x ⟨w2.heap.size, 0, none⟩ 1 (by rfl) (ownE_nil strE _ _) (by rfl) (str_one' _ w2.heap.size (by first | rfl | simp) x _) (by simp [strE]) (by simp) (by simp; omega) (w2.heap.size + 1) (by simp) ?_; intro gg cc w1 hown1 hgrow hat hlz
                           have G1 : World.grownBy (w2.setCell ⟨w.heap.size + 1, 0, none⟩ (.slice (some ⟨g, 0, none⟩) (m + 1) cap')) w1 (Value.ownBlock (.slice none 0 0)) := by refine grow_trans ?_ hgrow; exact ⟨G0.os, G0.tape, G0.output, G0.size, G0.block⟩
                           have z1 := G1.cell q2 (fun e => by cases e)
                           have z2 : w1.frozen? ⟨g, m * 3 + 2, none⟩ = false := by rw [G1.frozen_far ⟨g, m * 3 + 2, none⟩ q4 (fun e => by cases e), q3])
            all_goals
              have hI' := Lib.hid (HP3.out.new' (K := k + 1) HM.out (by show 0 + 1 ≤ k + 1; omega) (by show 0 ≤ k + 1; omega) (by omega) x hsm G1 gg 1 cc hown1 (w2.heap.size + 1) (by simp) hat s HH.out kd h0 h1)
              have hB' := Lib.hid ((HB3.out.grown G1 (by simp; omega) fun z hz => by cases hz).setCell (p := ⟨g, m * 3 + 2, none⟩) (by dsimp only; omega) (.slice (some ⟨gg, 0, none⟩) 1 cc))
              rw [← HN.out] at hI'
              have e1 : (pstAt l (k + 1)).at' = s.at' := by rw [HN.out]; unfold Dif.pst; rw [if_neg h0, if_neg h1]
              have e2 : (pstAt l (k + 1)).open' = true := by rw [HN.out]; unfold Dif.pst; rw [if_neg h0, if_neg h1]
              have E := Lib.hid (And.intro e1 e2)
              clear e1 e2 z1 z2 hat
              go_wp2_with fail
              go_roundw
              case rel => exact ⟨k + 1, hlt, by go_num, by first | (rw [E.out.1]; done) | (rw [E.out.1]; go_num), by rw [E.out.2], hI', hB'⟩
              case measure => first | (simp [intOf]; done) | (simp [intOf]; omega)
        · rw [ho]
          obtain ⟨g, cap', rfl, q1, q2, q3, q4, q5, q6, q7⟩ := hP.cells
          have pc := hP.pc
          have m0 : (0 : Int) ≤ (qs.length : Int) := by omega
          have m2 : qs.length ≤ 4000000 := by have := hP.cnt; omega
          have m3 : (qs.length : Int) < (qs.length : Int) + 1 := by omega
          have m4 := hP.cnt
          have ol := hP.os.2
          have nl := hP.ns.2
          have HPO := Lib.hid hP
          have HH : Hid ((if s.open' = true then s.hs else s.hs ++ [⟨s.at', [], []⟩]) = (qs ++ [c]).map (·.1)) := Lib.hid (by rw [if_pos ho]; exact hh)
          obtain ⟨m, hm⟩ : ∃ m, m = qs.length := ⟨_, rfl⟩
          rw [← hm] at pc q1 q2 m0 m2 m3 m4 HPO
          have HM := Lib.hid hm
          clear hP hh hm ho
          by_cases h1 : kd = 1
          · subst h1
            clear h0 g0
            have G0 := World.grownBy_alloc wr (.cells #[.string x] 9 (0, 0)) none
            go_wp2_with fail
            go_region_law (skip; refine step_appE strE _ (by rfl) (.tmp 48) (.tmp 54) (by rfl) (w.heap.size + 2) (sv c.2.1) c.1.old x ⟨wr.heap.size, 0, none⟩ 1 (by rfl) (HPO.out.o.alloc _) (by rfl) (str_one' _ wr.heap.size (by first | rfl | simp) x _) (by simp [strE]; omega) (by first | omega | (simp; omega)) (by simp; omega) (wr.heap.size + 1) (by simp) ?_; intro gg cc w1 hown1 hgrow hat hlz
                           have G1 : World.grownBy wr w1 (Value.ownBlock (sv c.2.1)) := by refine grow_trans ?_ hgrow; exact ⟨G0.os, G0.tape, G0.output, G0.size, G0.block⟩
                           have z1 := G1.cell q1 (Ne.symm q6)
                           have z2 : w1.frozen? ⟨g, m * 3 + 1, none⟩ = false := by rw [G1.frozen_far ⟨g, m * 3 + 1, none⟩ q4 (Ne.symm q6), q3])
            all_goals
              have hI' := Lib.hid (HPO.out.old' (K := k + 1) HM.out (by omega) (by omega) (by omega) x hsm G1 gg _ cc hown1 (wr.heap.size + 1) (by omega) hat s HH.out)
              have hB' := Lib.hid ((hB.out.grown G1 (by omega) fun z hz => by have := own_block HPO.out.o z hz; omega).setCell (p := ⟨g, m * 3 + 1, none⟩) (by dsimp only; omega) (.slice (some ⟨gg, 0, none⟩) (c.1.old.length + 1) cc))
              rw [← HN.out] at hI'
              have e1 : (pstAt l (k + 1)).at' = s.at' + 1 := by rw [HN.out]; rfl
              have e2 : (pstAt l (k + 1)).open' = true := by rw [HN.out]; rfl
              have E := Lib.hid (And.intro e1 e2)
              clear e1 e2 z1 z2 hat
              go_wp2_with fail
              go_roundw
              case rel => exact ⟨k + 1, hlt, by go_num, by first | (rw [E.out.1]; done) | (rw [E.out.1]; go_num), by rw [E.out.2], hI', hB'⟩
              case measure => first | (simp [intOf]; done) | (simp [intOf]; omega)
          · have g1 : ((kd : Int) == 1) = false := by rw [beq_eq_false_iff_ne]; omega
            have G0 := World.grownBy_alloc wr (.cells #[.string x] 9 (0, 0)) none
            go_wp2_with fail
            go_region_law (skip; refine step_appE strE _ (by rfl) (.tmp 64) (.tmp 70) (by rfl) (w.heap.size + 2) (sv c.2.2) c.1.new x ⟨wr.heap.size, 0, none⟩ 1 (by rfl) (HPO.out.n.alloc _) (by rfl) (str_one' _ wr.heap.size (by first | rfl | simp) x _) (by simp [strE]; omega) (by first | omega | (simp; omega)) (by simp; omega) (wr.heap.size + 1) (by simp) ?_; intro gg cc w1 hown1 hgrow hat hlz
                           have G1 : World.grownBy wr w1 (Value.ownBlock (sv c.2.2)) := by refine grow_trans ?_ hgrow; exact ⟨G0.os, G0.tape, G0.output, G0.size, G0.block⟩
                           have z1 := G1.cell q2 (Ne.symm q7)
                           have z2 : w1.frozen? ⟨g, m * 3 + 2, none⟩ = false := by rw [G1.frozen_far ⟨g, m * 3 + 2, none⟩ q4 (Ne.symm q7), q3])
            all_goals
              have hI' := Lib.hid (HPO.out.new' (K := k + 1) HM.out (by omega) (by omega) (by omega) x hsm G1 gg _ cc hown1 (wr.heap.size + 1) (by omega) hat s HH.out kd h0 h1)
              have hB' := Lib.hid ((hB.out.grown G1 (by omega) fun z hz => by have := own_block HPO.out.n z hz; omega).setCell (p := ⟨g, m * 3 + 2, none⟩) (by dsimp only; omega) (.slice (some ⟨gg, 0, none⟩) (c.1.new.length + 1) cc))
              rw [← HN.out] at hI'
              have e1 : (pstAt l (k + 1)).at' = s.at' := by rw [HN.out]; unfold Dif.pst; rw [if_neg h0, if_neg h1]
              have e2 : (pstAt l (k + 1)).open' = true := by rw [HN.out]; unfold Dif.pst; rw [if_neg h0, if_neg h1]
              have E := Lib.hid (And.intro e1 e2)
              clear e1 e2 z1 z2 hat
              go_wp2_with fail
              go_roundw
              case rel => exact ⟨k + 1, hlt, by go_num, by first | (rw [E.out.1]; done) | (rw [E.out.1]; go_num), by rw [E.out.2], hI', hB'⟩
              case measure => first | (simp [intOf]; done) | (simp [intOf]; omega)
    · have hend := pstAt_end l k (by omega)
      obtain ⟨v, qs, hP, hh⟩ := hI.out.cell (by omega)
      obtain ⟨p', cap', rfl, -⟩ := hP.ptc
      have pc := hP.pc
      have HPB := Lib.hid hP
      have r0 : wr.cell? ⟨w.heap.size, 0, none⟩ = some (.slice none 0 0) := by
        rw [hB.out.cell (p := ⟨w.heap.size, 0, none⟩) (by dsimp only; omega), World.cell?_alloc_mark]; rfl
      have r1 : wr.frozen? ⟨w.heap.size, 0, none⟩ = false := by
        rw [hB.out.frozen (p := ⟨w.heap.size, 0, none⟩) (by dsimp only; omega), World.frozen?_alloc_mark]; rfl
      have d0 : (wr.setCell ⟨w.heap.size, 0, none⟩ (.slice p' (qs.map (·.1)).length cap')).cell? ⟨w.heap.size, 0, none⟩ = some (.slice p' (qs.map (·.1)).length cap') := World.cell?_setCell_same _ _ _ r0
      have e : qs.map (·.1) = Dif.pof l := by rw [← hh, hend]
      rw [e] at pc d0
      have R0 := HPB.out.out w.heap.size (by omega) (by omega) (.slice p' (Dif.pof l).length cap')
      obtain ⟨p2, cap2, e2, -, hp2, hp3⟩ := R0.ptc
      cases e2
      have hqs : qs.length = (Dif.pof l).length := by rw [← e, List.length_map]
      rw [hqs] at hp3
      have hp1 : ∀ W : World, (wr.setCell ⟨w.heap.size, 0, none⟩ (.slice p' (Dif.pof l).length cap')).heap.size ≤ W.heap.size → (∀ k, w.heap.size ≤ k → k < (wr.setCell ⟨w.heap.size, 0, none⟩ (.slice p' (Dif.pof l).length cap')).heap.size → W.heap[k]? = (wr.setCell ⟨w.heap.size, 0, none⟩ (.slice p' (Dif.pof l).length cap')).heap[k]?) → Ptc W p' (Dif.pof l) := fun W h1 h2 => by
        obtain ⟨p3, cap3, e3, h3, -⟩ := R0.ptcW W h1 (fun k hk => h2 k (by omega))
        cases e3
        rw [e] at h3
        exact h3
      have R := Lib.hid (And.intro hp1 (And.intro hp2 hp3))
      have HB2 : Hid (Below w.heap.size w wr) := Lib.hid (((Below.refl w.heap.size w).alloc (Nat.le_refl _) _).trans (hB.out.mono (by omega)))
      clear hp1 hp2 hp3 R0 hP hend hh hqs e
      go_wp2_with fail
      refine bodyPost_ret (v := .agg #[.slice p' (Dif.pof l).length cap']) (by simp [results, Try.results89, go_sem, d0]) rfl ⟨p', cap', rfl, R.out.1, R.out.2.1, R.out.2.2, ?_⟩
      exact HB2.out.setCell (Nat.le_refl _) _
end Go.Proofs.Ytbgnckbgpiajjaa
