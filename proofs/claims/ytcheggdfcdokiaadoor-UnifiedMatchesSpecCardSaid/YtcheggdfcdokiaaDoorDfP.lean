
/-
  A part of a slice of strings: from lo to hi.
  Scripts by what lies between two kept lines (no program here); patches that grow by a whole hunk.
-/
import Derived.Test.YtcheggdfcdokiaaDoorLinD
import Derived.Test.YtcheggdfcdokiaaDoorDifQ
namespace Go.Proofs.YtcheggdfcdokiaaDoor
open Go.RowKit
set_option maxRecDepth 4000

theorem run_mid (p : Option Addr) (len cap lo hi : Nat) (h : lo ≤ hi) (h' : hi ≤ cap) (w : World) :
    (Instr.slice 22 (.slice p len cap) (some (.int .i64 (lo : Int))) (some (.int .i64 (hi : Int))) none).run Tryd.prog w = .ok (.slice (sAt p lo cap) (hi - lo) (cap - lo)) w := by
  rw [run_slice_lh w 22 p len cap (by rw [Tryd.underlying22]; rfl) .i64 .i64 (lo : Int) (hi : Int) (by omega) (by omega) (by omega)]
  have : ∀ w, (sizeOf (Tryd.prog.elem 22)).run Tryd.prog w = .ok 1 w := fun w => by kernel_rfl
  rw [this]
  simp [Result.andThen, sliced, sAt]
/-- what lies between -/
def mid (l : List ByteArray) (lo hi : Nat) : List ByteArray := (l.drop lo).take (hi - lo)
theorem mid_nil (l : List ByteArray) (lo : Nat) : mid l lo lo = [] := by unfold mid; rw [Nat.sub_self, List.take_zero]
theorem mid_next (l : List ByteArray) (lo hi : Nat) (h : lo ≤ hi) (h' : hi < l.length) : mid l lo (hi + 1) = mid l lo hi ++ [l[hi]] := by
  unfold mid
  rw [show hi + 1 - lo = (hi - lo) + 1 by omega, List.take_succ_eq_append_getElem (by rw [List.length_drop]; omega), List.getElem_drop]
  congr 3; omega
theorem mid_size (l : List ByteArray) (lo hi : Nat) (h2 : hi ≤ l.length) : (mid l lo hi).length = hi - lo := by
  unfold mid; rw [List.length_take, List.length_drop]; omega
theorem Sts.mid {w : World} {p : Option Addr} {l : List ByteArray} (h : Sts w p l) (lo hi cap : Nat) (h1 : lo ≤ hi) (h2 : hi ≤ l.length) (hc : l.length ≤ cap) : Sts w (sAt p lo cap) (mid l lo hi) :=
  (h.from lo cap (by omega) hc).upto (hi - lo) (by rw [List.length_drop]; omega)
end Go.Proofs.YtcheggdfcdokiaaDoor
namespace Go.Proofs.YtcheggdfcdokiaaDoor
open Go.RowKit

/-- the hunk that is still to be written -/
def pend (a b : List ByteArray) (fa fb i j : Nat) : List (Dif.Hk ByteArray) := if fa < i ∨ fb < j then [⟨(fa : Int), mid a fa i, mid b fb j⟩] else []
theorem pend_one {a b : List ByteArray} {fa fb i j : Nat} (h : fa < i ∨ fb < j) : pend a b fa fb i j = [⟨(fa : Int), mid a fa i, mid b fb j⟩] := if_pos h
theorem pend_none {a b : List ByteArray} {fa fb i j : Nat} (h : ¬ (fa < i ∨ fb < j)) : pend a b fa fb i j = [] := if_neg h
theorem pend_len (a b : List ByteArray) (fa fb i j : Nat) : (pend a b fa fb i j).length ≤ 1 := by unfold pend; split <;> simp
def fold (out : List (Nat × ByteArray)) : Dif.St ByteArray := out.foldl Dif.pst ⟨[], 0, false⟩
theorem fold_snoc (out : List (Nat × ByteArray)) (x : Nat × ByteArray) : fold (out ++ [x]) = Dif.pst (fold out) x := by unfold fold; rw [List.foldl_append]; rfl
/-- where the walk stands: the last kept lines end at fa and fb, the hunks ahead of them are H -/
structure Pm (a b : List ByteArray) (fa fb i j : Nat) (H : List (Dif.Hk ByteArray)) (out : List (Nat × ByteArray)) : Prop where
  hi : fa ≤ i
  hj : fb ≤ j
  len : H.length ≤ fa
  at' : (fold out).at' = i
  hs : (fold out).hs = H ++ pend a b fa fb i j
  op : (fold out).open' = decide (fa < i ∨ fb < j)
theorem Pm.start (a b : List ByteArray) : Pm a b 0 0 0 0 [] [] := ⟨Nat.le_refl _, Nat.le_refl _, Nat.le_refl _, rfl, by rw [pend_none (by omega)]; rfl, rfl⟩
theorem Pm.base {a b : List ByteArray} {fa fb i j : Nat} {H : List (Dif.Hk ByteArray)} {out : List (Nat × ByteArray)} (h : Pm a b fa fb i j H out) :
    (if (fold out).open' then (fold out).hs else (fold out).hs ++ [⟨((fold out).at' : Nat), [], []⟩]) = H ++ [⟨(fa : Int), mid a fa i, mid b fb j⟩] := by
  rw [h.op]
  by_cases e : fa < i ∨ fb < j
  · rw [if_pos (by simpa using e), h.hs, pend_one e]
  · rw [if_neg (by simpa using e), h.hs, pend_none e, h.at', List.append_nil]
    have h1 := h.hi
    have h2 := h.hj
    obtain rfl : fa = i := by omega
    obtain rfl : fb = j := by omega
    rw [mid_nil, mid_nil]
theorem Pm.del {a b : List ByteArray} {fa fb i j : Nat} {H : List (Dif.Hk ByteArray)} {out : List (Nat × ByteArray)} (h : Pm a b fa fb i j H out) (hi : i < a.length) : Pm a b fa fb (i + 1) j H (out ++ [(1, a[i])]) := by
  have h1 := h.hi
  have e : Dif.pst (fold out) (1, a[i]) = { hs := Dif.onLast (fun h => { h with old := h.old ++ [a[i]] }) (if (fold out).open' then (fold out).hs else (fold out).hs ++ [⟨(fold out).at', [], []⟩]), at' := (fold out).at' + 1, open' := true } := rfl
  refine ⟨by omega, h.hj, h.len, by rw [fold_snoc, e, h.at'], ?_, ?_⟩
  · rw [fold_snoc, e, pend_one (by omega), h.base, onLast_snoc, mid_next a fa i h1 hi]
  · rw [fold_snoc, e]; exact (decide_eq_true (by omega)).symm
theorem Pm.ins {a b : List ByteArray} {fa fb i j : Nat} {H : List (Dif.Hk ByteArray)} {out : List (Nat × ByteArray)} (h : Pm a b fa fb i j H out) (hj : j < b.length) : Pm a b fa fb i (j + 1) H (out ++ [(2, b[j])]) := by
  have h1 := h.hj
  have e : Dif.pst (fold out) (2, b[j]) = { hs := Dif.onLast (fun h => { h with new := h.new ++ [b[j]] }) (if (fold out).open' then (fold out).hs else (fold out).hs ++ [⟨(fold out).at', [], []⟩]), at' := (fold out).at', open' := true } := rfl
  refine ⟨h.hi, by omega, h.len, by rw [fold_snoc, e, h.at'], ?_, ?_⟩
  · rw [fold_snoc, e, pend_one (by omega), h.base, onLast_snoc, mid_next b fb j h1 hj]
  · rw [fold_snoc, e]; exact (decide_eq_true (by omega)).symm
theorem Pm.keep {a b : List ByteArray} {fa fb i j : Nat} {H : List (Dif.Hk ByteArray)} {out : List (Nat × ByteArray)} (h : Pm a b fa fb i j H out) (x : ByteArray) : Pm a b (i + 1) (j + 1) (i + 1) (j + 1) (H ++ pend a b fa fb i j) (out ++ [(0, x)]) := by
  have h1 := h.hi
  have h2 := h.len
  have h3 := pend_len a b fa fb i j
  have e : Dif.pst (fold out) (0, x) = { hs := (fold out).hs, at' := (fold out).at' + 1, open' := false } := rfl
  refine ⟨Nat.le_refl _, Nat.le_refl _, by rw [List.length_append]; omega, by rw [fold_snoc, e, h.at'], ?_, ?_⟩
  · rw [fold_snoc, e, pend_none (fa := i + 1) (fb := j + 1) (i := i + 1) (j := j + 1) (by omega), List.append_nil]; exact h.hs
  · rw [fold_snoc, e]; exact (decide_eq_false (by omega)).symm
theorem Pm.done {a b : List ByteArray} {fa fb : Nat} {H : List (Dif.Hk ByteArray)} (h : Pm a b fa fb a.length b.length H (Dif.al a b)) : Dif.pof (Dif.al a b) = H ++ pend a b fa fb a.length b.length := h.hs

/-- a whole hunk is appended: the patch's cell was written -/
theorem PBs.push {base pg k : Nat} {w w2 : World} {v v' : Value} {qs : List Q} (h : PBs base pg k w v qs) (q : Q) (hq : Qok base w (fun b => v.ownBlock = some b) q) (hG : w.grownBy w2 v.ownBlock) (own : OwnE hkE base w2 v' (qs.map Q.raw ++ [q.raw]))
    (H : Nat) (hsW : w.heap.size ≤ H) (hat : v'.ownBlock = v.ownBlock ∨ v'.ownBlock = some H) : PBs base pg (k + 1) (w2.setCell ⟨pg, 0, none⟩ v') v' (qs ++ [q]) := by
  have hv : v.ownBlock ≠ some pg := fun e => by have := own_block h.own _ e; have := h.pl; omega
  have hc2 : w2.cell? ⟨pg, 0, none⟩ = some v := hG.cell h.pc (Ne.symm hv)
  have hpl := h.pl
  have hbl := h.bl
  have hsz := hG.size
  have step : ∀ q, Qok base w (fun b => v.ownBlock = some b) q → Qok base (w2.setCell ⟨pg, 0, none⟩ v') (fun b => v'.ownBlock = some b) q := fun q hq => by
    refine hq.next (by rw [World.size_setCell]; exact hsz) (fun b hb hbb hbad => ?_) (fun b hb hbb hbad => ?_)
    · rw [Below.heap_setCell _ _ _ _ (by dsimp only; omega)]
      exact hG.block b hb (fun e' => hbad e'.symm)
    · rcases hat with e | e
      · rw [e] at hbad; exact hbad
      · rw [e] at hbad; cases hbad; omega
  refine ⟨World.cell?_setCell_same _ _ _ hc2, ?_, h.pl, by rw [World.size_setCell]; omega, ?_, by have := h.cnt; rw [List.length_append]; simp; omega, fun q' hq' => ?_⟩
  · rw [World.frozen?_setCell, hG.frozen_far ⟨pg, 0, none⟩ (by dsimp only; omega) (Ne.symm hv)]; exact h.pf
  · rw [List.map_append]
    exact ownsRow_setCell_below own (by exact h.pl) _
  · rcases List.mem_append.1 hq' with hq' | hq'
    · exact step q' (h.ok q' hq')
    · rw [List.mem_singleton.1 hq']; exact step q hq
end Go.Proofs.YtcheggdfcdokiaaDoor
