/-
  The statement 'SequenceSemilattice' of this seat holds: for every input within the form's reach the law returns true and its arguments read as they did. No further condition.
-/
import Derived.Test.YtidncnhhjfdifaaSqSe
import Derived.Test.YtidncnhhjfdifaaRows
import Derived.WalkKit
import Derived.ProofKit
import Derived.OpenShut
import Derived.ShutString
import Derived.ChangeOld
import Derived.Below
import Derived.SizedLaws
namespace Go.Proofs.Ytidncnhhjfdifaa.lawSequenceSemilattice
open Go.ChangeShapes Go.WideShapes Go.ChangeAt Go.RowKit
open Go.ChangeMaps (open_string shut_string)
set_option linter.unusedVariables false

theorem own : ownKnob Try.prog.godebug = none := by kernel_rfl
theorem laidOut : laidOutB Try.prog = true := by kernel_rfl
set_option maxRecDepth 100000 in
theorem lifted (os : Os) (started : os.Started) (H : Type) (enc : TypeId × Value → H) :
    ReturnsInHanded {} Try.checked os 10 .any (Rows.sequenceSemilatticeSpec.pre6 enc Try.prog Try.f10 Rows.sequenceSemilatticeRow.domain false) (Rows.sequenceSemilatticeSpec.post enc Try.prog Try.f10 false true false false) := by
  refine returnsInHanded_of_change_sized (C := Try.checked) own started (by kernel_rfl) Try.func10
    (ChangeSpec.witness6 (enc := enc) (C := Try.checked) false ⟨#[], #[.slice none 0 0, .slice none 0 0, .slice none 0 0], []⟩ 8 (by kernel_rfl) (by kernel_rfl) (by kernel_rfl) (by kernel_rfl)) ?_
  intro W base args ds gs before hval0 hW hcnd hsz0 _
  have hval : ∀ (j : Nat) t v, Try.f10.params[j]? = some t → args[j]? = some v → Value.okWide Try.prog W .any base t v := hval0
  have hW' := hW
  obtain ⟨p, q, hA0, hV, rfl, hfz, hnd⟩ := hW
  have hA : DataW.TrodAll enc Try.prog W 0 (fun _ => true) true Try.f10.params.toList args.toList ds p := hA0
  have hsz : ∀ (j : Nat) t d, Try.f10.params[j]? = some t → ds[j]? = some d → (d.weights Try.prog t).all (· ≤ 140737488351232) = true := by
    intro j t d ht hd
    refine List.all_eq_true.2 fun x hx => List.all_eq_true.1 hsz0 x (DataW.weights_mem_each (j := j) ?_ ?_ x hx)
    · rw [List.getElem?_append_left (by have := (Array.getElem?_eq_some_iff.1 ht).1; simpa using this)]; simpa using ht
    · rw [List.getElem?_append_left (List.getElem?_eq_some_iff.1 hd).1]; exact hd
  rw [Try.params10] at hA hval hsz
  obtain ⟨v0, vs0, d0, ds0, p0, q0, hargs, rfl, rfl, h0, r0⟩ := trodAll_cons hA
  obtain ⟨v1, vs1, d1, ds1, p1, q1, rfl, rfl, rfl, h1, r1⟩ := trodAll_cons r0
  obtain ⟨v2, vs2, d2, ds2, p2, q2, rfl, rfl, rfl, h2, r2⟩ := trodAll_cons r1
  obtain ⟨rfl, rfl, rfl⟩ := trodAll_nil r2
  obtain rfl : args = #[v0, v1, v2] := by cases args; simp_all
  obtain ⟨rfl, rfl⟩ := trodVars_none hV
  have k0 := h0
  have lt0 : ∀ x ∈ p0, x.block < W.heap.size := by obtain ⟨m, hm⟩ := k0; exact DataW.trod_lt m _ _ _ hm
  obtain ⟨p0', l0, c0, rfl, b0, n0, z0, y0, f0⟩ := ops_open (by obtain ⟨a, b, c, hh⟩ := okWide_slice Try.underlying41 (hval 0 41 v0 rfl rfl); exact ⟨a, b, c, hh⟩) h0.choose_spec (hsz 0 41 d0 rfl rfl)
  have k1 := h1
  have lt1 : ∀ x ∈ p1, x.block < W.heap.size := by obtain ⟨m, hm⟩ := k1; exact DataW.trod_lt m _ _ _ hm
  obtain ⟨p1', l1, c1, rfl, b1, n1, z1, y1, f1⟩ := ops_open (by obtain ⟨a, b, c, hh⟩ := okWide_slice Try.underlying41 (hval 1 41 v1 rfl rfl); exact ⟨a, b, c, hh⟩) h1.choose_spec (hsz 1 41 d1 rfl rfl)
  have k2 := h2
  have lt2 : ∀ x ∈ p2, x.block < W.heap.size := by obtain ⟨m, hm⟩ := k2; exact DataW.trod_lt m _ _ _ hm
  obtain ⟨p2', l2, c2, rfl, b2, n2, z2, y2, f2⟩ := ops_open (by obtain ⟨a, b, c, hh⟩ := okWide_slice Try.underlying41 (hval 2 41 v2 rfl rfl); exact ⟨a, b, c, hh⟩) h2.choose_spec (hsz 2 41 d2 rfl rfl)
  clear hA0 hval0 hsz hsz0
  refine (seqlat_walk p0' l0 c0 p1' l1 c1 p2' l2 c2 W b0 n0 z0 y0 f0 b1 n1 z1 y1 f1 b2 n2 z2 y2 f2).mono fun e W' ⟨he, bel⟩ => ?_
  subst he
  exact ⟨_, rfl, _, _, _, [], _, [], hW', trodAll_mk1 (shut_bool Try.underlying4 _), (trodAll_cons_mk (Below.trod laidOut (by kernel_rfl) (of_decide_eq_true (by kernel_rfl)) k0 bel lt0) (trodAll_cons_mk (Below.trod laidOut (by kernel_rfl) (of_decide_eq_true (by kernel_rfl)) k1 bel lt1) (trodAll_cons_mk (Below.trod laidOut (by kernel_rfl) (of_decide_eq_true (by kernel_rfl)) k2 bel lt2) trodAll_mk0))), rfl, bel.frame _, fun h => by cases h⟩

theorem over : Rows.sequenceSemilatticeRow.holds Try.pinned (OpenSpec.ofChange Rows.sequenceSemilatticeSpec) :=
  OpenClaim.holds_of_wide 10 Try.f10 rfl rfl rfl rfl rfl rfl rfl ⟨rfl, rfl, rfl, rfl, rfl⟩ rfl rfl rfl rfl rfl (by kernel_rfl) Try.func10 (by kernel_rfl)
    (of_decide_eq_true (by kernel_rfl)) (by unfold Func.isWrapper; first | (rw [if_pos (by decide +kernel)]; kernel_rfl) | (rw [if_neg (by decide +kernel)]; exact ⟨rfl, rfl⟩))
    (fun os started H enc _ => lifted os started H enc)

theorem proved : Rows.SequenceSemilatticeSaid := over
end Go.Proofs.Ytidncnhhjfdifaa.lawSequenceSemilattice
