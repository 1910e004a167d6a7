
/-
  The reference's Growth and fits, walked.
-/
import Derived.Test.YtcheggdfcdokiaaDoorTpC
namespace Go.Proofs.YtcheggdfcdokiaaDoor
open Go.RowKit
set_option maxRecDepth 4000


/-- what fits returns -/
noncomputable def fitS (hs : List Tp.H) (p : Option Addr) (n cap : Nat) : Value := if Tp.pC hs = 0 then .slice p n cap else .slice none 0 0
noncomputable def fitC (hs : List Tp.H) : Int := if Tp.pC hs = 0 then 0 else 10
noncomputable def fitI (hs : List Tp.H) : Int := if Tp.pC hs = 0 then 0 else -1

namespace Tp
theorem gr_app (l m : List H) : gr (l ++ m) = gr l + gr m := by
  induction l with
  | nil => simp [gr]
  | cons h r ih => simp only [List.cons_append, gr, ih]; omega
theorem gr_next (hs : List H) (k : Nat) (h : k < hs.length) : gr (hs.take (k + 1)) = gr (hs.take k) + ((hs[k].new.length : Int) - hs[k].old.length) := by
  rw [List.take_succ_eq_append_getElem h, gr_app]; simp [gr]
theorem iv_get (hs : List H) : ∀ (n : Int) (k : Nat) (h : k < hs.length) (h' : k < (iv n hs).length), (iv n hs)[k] = ⟨hs[k].at' + n + gr (hs.take k), hs[k].new, hs[k].old⟩ := by
  induction hs with
  | nil => intro n k h; simp at h
  | cons x r ih =>
    intro n k h h'
    cases k with
    | zero => simp [iv, gr]
    | succ k =>
      simp only [iv, List.getElem_cons_succ, List.take_succ_cons, gr]
      rw [ih _ k (by simpa using h)]
      congr 1
      omega
theorem gr_bound (hs : List H) (hv : ∀ h ∈ hs, h.old.length ≤ 120 ∧ h.new.length ≤ 120) : -(120 * hs.length : Int) ≤ gr hs ∧ gr hs ≤ 120 * hs.length := by
  induction hs with
  | nil => simp [gr]
  | cons h r ih =>
    obtain ⟨h1, h2⟩ := ih (fun x hx => hv x (List.mem_cons_of_mem _ hx))
    obtain ⟨h3, h4⟩ := hv h (List.mem_cons_self ..)
    simp only [gr, List.length_cons]
    omega
end Tp
end Go.Proofs.YtcheggdfcdokiaaDoor
