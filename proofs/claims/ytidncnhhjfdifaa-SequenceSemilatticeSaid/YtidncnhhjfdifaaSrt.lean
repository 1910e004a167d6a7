
/-
  slices.SortFunc on a slice of the call's own, whatever its elements.
-/
import Derived.Test.YtidncnhhjfdifaaOwn
import Derived.Shelf.SlSortCmp.WholeK
namespace Go.Proofs.Ytidncnhhjfdifaa
open Go.RowKit Go.Sort Go.Shelf
set_option maxRecDepth 4000
set_option maxRecDepth 4000

theorem flat_get {α : Type} (e : Enc α) (l : List α) {j : Nat} (hj : j < l.length * e.size) : ∃ (h : j / e.size < l.length), (l.flatMap e.enc)[j]? = (e.enc l[j / e.size])[j % e.size]? ∧ j % e.size < (e.enc l[j / e.size]).length := by
  have hp := e.pos
  have h : j / e.size < l.length := (Nat.div_lt_iff_lt_mul hp).2 hj
  have hm : j % e.size < (e.enc l[j / e.size]).length := by rw [e.len]; exact Nat.mod_lt _ hp
  refine ⟨h, ?_, hm⟩
  have := flat_at e l (j / e.size) h (j % e.size) _ (List.getElem?_eq_getElem hm)
  rw [Nat.mul_comm, Nat.div_add_mod] at this
  rw [this, List.getElem?_eq_getElem hm]
theorem flatK_list {α : Type} [Inhabited α] (e : Enc α) (d : Array α) : (flatK e.enc e.size d).toList = d.toList.flatMap e.enc := by
  apply List.ext_getElem?
  intro j
  by_cases hj : j < d.size * e.size
  · obtain ⟨h, h1, h2⟩ := flat_get e d.toList (j := j) (by simpa using hj)
    rw [h1, List.getElem?_eq_getElem h2, Array.getElem?_toList, Array.getElem?_eq_getElem (by rw [size_flatK]; exact hj)]
    have := get_flatK e.enc e.size d j hj
    rw [getElem!_pos (flatK e.enc e.size d) j (by rw [size_flatK]; exact hj)] at this
    rw [this]
    have hd : j / e.size < d.size := by simpa using h
    rw [getElem!_pos d _ hd, getElem!_pos _ _ (by simpa using h2)]
    simp
  · rw [List.getElem?_eq_none (by simp; omega), List.getElem?_eq_none (by rw [flat_len]; simp; omega)]
theorem below_grown_by {w w' : World} (h : Below w.heap.size w w') (hd : w.drawn ≤ w'.drawn) : ∃ q os, w' = grow (w.drewN q) os := by
  refine ⟨w'.drawn - w.drawn, w'.heap.extract w.heap.size w'.heap.size, ?_⟩
  have e1 : w'.heap = w.heap ++ w'.heap.extract w.heap.size w'.heap.size := by
    have hsz := h.size
    apply Array.ext_getElem?
    intro i
    by_cases hi : i < w.heap.size
    · rw [Array.getElem?_append_left hi, h.block i hi]
    · rw [Array.getElem?_append_right (by omega), Array.getElem?_extract]
      by_cases hj : i < w'.heap.size
      · rw [if_pos (by omega)]; congr 1; omega
      · rw [if_neg (by omega), Array.getElem?_eq_none (by omega)]
  have e2 : w'.drawn = w.drawn + (w'.drawn - w.drawn) := by omega
  have e3 := h.os
  have e4 := h.tape
  have e5 := h.output
  generalize w'.heap.extract w.heap.size w'.heap.size = x at e1 ⊢
  generalize w'.drawn - w.drawn = y at e2 ⊢
  obtain ⟨hp, tp, dr, o, ou⟩ := w'
  dsimp only at e1 e2 e3 e4 e5
  subst e1 e2 e3 e4 e5
  rfl
theorem own_sort {α : Type} [Inhabited α] (e : Enc α) {base : Nat} {w : World} {v : Value} {l : List α} (h : OwnE e base w v l) (hne : l ≠ []) :
    ∃ g cap, v = .slice (some ⟨g, 0, none⟩) l.length cap ∧ base ≤ g ∧ g < w.heap.size ∧ HoldsK e.enc e.size w g 0 l.toArray ∧
      ∀ (d : Array α) (n : Nat) (os : Array Obj), d.size = l.length → OwnE e base (sortWorldK e.enc e.size w g 0 n d os) v d.toList ∧ w.grownBy (sortWorldK e.enc e.size w g 0 n d os) (some g) := by
  obtain ⟨hlen, ⟨rfl, h0⟩ | ⟨g, cap, cur, rfl, hb, hg, hn, hm, hsz, htk⟩⟩ := h
  · exact (hne (List.length_eq_zero_iff.1 h0)).elim
  have hlt : g < w.heap.size := (Array.getElem?_eq_some_iff.1 hg).1
  refine ⟨g, cap, rfl, hb, hlt, ?_, ?_⟩
  · intro j hj
    rw [size_flatK] at hj
    have hj' : j < l.length * e.size := by simpa using hj
    have e1 : (flatK e.enc e.size l.toArray).toList[j]? = (l.flatMap e.enc)[j]? := by rw [flatK_list]
    rw [← htk, List.getElem?_take, if_pos hj', Array.getElem?_toList, Array.getElem?_toList, Array.getElem?_eq_getElem (by rw [size_flatK]; exact hj)] at e1
    constructor
    · unfold World.cell?
      dsimp only
      rw [hg, Nat.zero_add]
      simp only [Option.isSome_none, Bool.false_eq_true, if_false]
      rw [← e1, getElem!_pos (flatK e.enc e.size l.toArray) j (by rw [size_flatK]; exact hj)]
      rfl
    · unfold World.frozen?
      dsimp only
      rw [hg]
      simp
  · intro d n os hd
    have hF : (flatK e.enc e.size d).size = l.length * e.size := by rw [size_flatK, hd]
    have hh : (putRowK e.enc e.size (Sort.ahead w n) g 0 d).heap[g]? = some (.cells (putCells id 0 (flatK e.enc e.size d) cur) e.ty (0, 0)) := by
      show (w.heap.modify g _)[g]? = _
      rw [Array.getElem?_modify, if_pos rfl, hg]
      rfl
    have hs : (putRowK e.enc e.size (Sort.ahead w n) g 0 d).heap.size = w.heap.size := by
      show (w.heap.modify g _).size = _
      rw [Array.size_modify]
    refine ⟨⟨?_, .inr ⟨g, cap, putCells id 0 (flatK e.enc e.size d) cur, by rw [show d.toList.length = l.length by simpa using hd], hb, ?_, by rw [show d.toList.length = l.length by simpa using hd]; exact hn, hm, ?_, ?_⟩⟩, ⟨rfl, rfl, rfl, ?_, ?_⟩⟩
    · rw [flat_len]
    · show ((putRowK e.enc e.size (Sort.ahead w n) g 0 d).heap ++ os)[g]? = _
      rw [Array.getElem?_append_left (by rw [hs]; exact hlt)]
      exact hh
    · unfold putCells; rw [Array.size_mapIdx]; exact hsz
    · rw [show d.toList.length = l.length by simpa using hd, ← flatK_list]
      apply List.ext_getElem?
      intro j
      rw [List.getElem?_take]
      by_cases hj : j < l.length * e.size
      · rw [if_pos hj, Array.getElem?_toList, Array.getElem?_toList]
        unfold putCells
        have hc : j < cur.size := by
          rw [hsz]
          exact Nat.lt_of_lt_of_le hj (Nat.mul_le_mul_right _ hn)
        rw [Array.getElem?_mapIdx, Array.getElem?_eq_getElem hc, Array.getElem?_eq_getElem (by omega)]
        simp only [Option.map_some, Nat.zero_le, Nat.zero_add, true_and, Nat.sub_zero]
        rw [if_pos (by omega), getElem!_pos _ _ (by omega)]
        rfl
      · rw [if_neg hj, List.getElem?_eq_none]
        rw [Array.length_toList]; omega
    · show w.heap.size ≤ ((putRowK e.enc e.size (Sort.ahead w n) g 0 d).heap ++ os).size
      rw [Array.size_append, hs]; omega
    · intro i hi hne'
      show ((putRowK e.enc e.size (Sort.ahead w n) g 0 d).heap ++ os)[i]? = _
      rw [Array.getElem?_append_left (by rw [hs]; exact hi)]
      show (w.heap.modify g _)[i]? = _
      rw [Array.getElem?_modify, if_neg (fun e => hne' (by rw [e]))]
end Go.Proofs.Ytidncnhhjfdifaa
