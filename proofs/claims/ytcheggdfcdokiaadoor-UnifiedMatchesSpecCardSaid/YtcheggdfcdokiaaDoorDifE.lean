
/-
  changeforgeequal.Patch, walked.
-/
import Derived.Test.YtcheggdfcdokiaaDoorDifP
import Derived.IntWalk
namespace Go.Proofs.YtcheggdfcdokiaaDoor
open Go.RowKit
set_option maxRecDepth 4000

/-- two lists of hunks are one -/
noncomputable def eqP (h k : List (Dif.Hk ByteArray)) : Bool := @decide (h = k) (Classical.propDecidable _)
theorem eqP_true {h k : List (Dif.Hk ByteArray)} (e : h = k) : eqP h k = true := @decide_eq_true _ (Classical.propDecidable _) e
theorem eqP_false {h k : List (Dif.Hk ByteArray)} (e : h ≠ k) : eqP h k = false := @decide_eq_false _ (Classical.propDecidable _) e
theorem hk_ext {h k : Dif.Hk ByteArray} (h1 : h.at' = k.at') (h2 : h.old = k.old) (h3 : h.new = k.new) : h = k := by
  cases h; cases k; simp_all
theorem Ptc.cell {w : World} {p : Option Addr} {hs : List (Dif.Hk ByteArray)} (h : Ptc w p hs) {i : Nat} (hi : i < hs.length) :
    ∃ b off, p = some ⟨b, off, none⟩ ∧ b < w.heap.size ∧ ∃ o n : Sv, w.cell? ⟨b, off + i * 3, none⟩ = some (.int .i64 hs[i].at') ∧ w.cell? ⟨b, off + i * 3 + 1, none⟩ = some (sv o) ∧ w.cell? ⟨b, off + i * 3 + 2, none⟩ = some (sv n) ∧ Rd w o hs[i].old ∧ Rd w n hs[i].new := by
  obtain ⟨b, off, h1, h2, h3⟩ := h.at' (by intro e; subst e; simp at hi)
  exact ⟨b, off, h1, h2, h3 i hi⟩
theorem strings_any (o o' : Sv) (l m : List ByteArray) (w : World) (h : Rd w o l) (h' : Rd w o' m) : Calls Tryd.prog 8 #[sv o, sv o'] w (QPost (.bool (eqS l m)) w) :=
  equal_any _ _ l m _ _ _ _ w h.len h'.len h.sts h'.sts
theorem Rd.drewN {w : World} {s : Sv} {l : List ByteArray} (h : Rd w s l) (n : Nat) : Rd (w.drewN n) s l := ⟨sts_drew h.sts n, h.len, h.cap0, h.cap⟩
theorem take_snoc {h k : List (Dif.Hk ByteArray)} {i : Nat} (e : h.take i = k.take i) (hi : i < h.length) (hi' : i < k.length) (e1 : h[i] = k[i]) : h.take (i + 1) = k.take (i + 1) := by
  rw [List.take_succ_eq_append_getElem hi, List.take_succ_eq_append_getElem hi', e, e1]

end Go.Proofs.YtcheggdfcdokiaaDoor
