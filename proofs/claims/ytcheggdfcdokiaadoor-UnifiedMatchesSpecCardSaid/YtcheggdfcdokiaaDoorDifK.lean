
/-
  The reference's Distance, Script and Kept, walked.
-/
import Derived.Test.YtcheggdfcdokiaaDoorDifQ
namespace Go.Proofs.YtcheggdfcdokiaaDoor
open Go.RowKit
set_option maxRecDepth 4000

theorem al_len (a b : List ByteArray) : (Dif.al a b).length ≤ a.length + b.length := by
  fun_induction Dif.al a b <;> simp_all <;> omega
theorem al_mem (a b : List ByteArray) : ∀ x ∈ Dif.al a b, x.2 ∈ a ∨ x.2 ∈ b := by
  fun_induction Dif.al a b
  case case1 => intro x hx; cases hx
  all_goals
    rename_i ih
    intro x hx
    rcases List.mem_cons.1 hx with rfl | hx
    · simp
    · have := ih x hx
      simp at this ⊢
      try grind

/-- the distance of two texts -/
def dist (a b : List ByteArray) : Int := (a.length : Int) + b.length - 2 * (Dif.lcs a b : Nat)
/-- the kept ones of a list of steps -/
def kept (l : List (Nat × ByteArray)) : List ByteArray := (l.filter (fun s => s.1 == 0)).map (·.2)
theorem kept_next (l : List (Nat × ByteArray)) (k : Nat) (h : k < l.length) : kept (l.take (k + 1)) = kept (l.take k) ++ (if l[k].1 = 0 then [l[k].2] else []) := by
  unfold kept
  rw [List.take_succ_eq_append_getElem h, List.filter_append, List.map_append]
  congr 1
  by_cases e : l[k].1 = 0
  · simp [List.filter, e]
  · have : (l[k].1 == 0) = false := by simpa using e
    rw [if_neg e]; simp [List.filter, this]
theorem kept_len (l : List (Nat × ByteArray)) : (kept l).length ≤ l.length := by
  unfold kept; rw [List.length_map]; exact List.length_filter_le _ _
def KpPost (l : List ByteArray) (w : World) (e : Ending) (w' : World) : Prop := ∃ v, e = .returned v ∧ OwnE strE w.heap.size w' v l ∧ Below w.heap.size w w'
end Go.Proofs.YtcheggdfcdokiaaDoor
