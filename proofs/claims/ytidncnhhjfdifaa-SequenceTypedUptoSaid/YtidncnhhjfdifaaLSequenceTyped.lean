/-
  The statement 'SequenceTyped' of this seat holds: for every input within the form's reach the law returns true and its arguments read as they did. No further condition.
-/
import Derived.Test.YtidncnhhjfdifaaSqTy
import Derived.Test.YtidncnhhjfdifaaRows
import Derived.WalkKit
import Derived.ProofKit
import Derived.OpenShut
import Derived.ShutString
import Derived.ChangeOld
import Derived.Below
import Derived.SizedLaws
import Derived.JoinedCond
import Derived.Deep.CondSized
import Derived.Deep.Slices
namespace Go.Proofs.Ytidncnhhjfdifaa.lawSequenceTyped
open Go.ChangeShapes Go.WideShapes Go.ChangeAt Go.RowKit
open Go.ChangeMaps (open_string shut_string)
set_option linter.unusedVariables false

theorem own : ownKnob Try.prog.godebug = none := by kernel_rfl
theorem laidOut : laidOutB Try.prog = true := by kernel_rfl
theorem bulk_one {H : Type} (d : DataW H) : 1 ≤ Rows.uptoBulk d := by
  cases d with
  | lit l => cases l <;> simp [Rows.uptoBulk]
  | nil => simp [Rows.uptoBulk]
  | ptr d => simp [Rows.uptoBulk]
  | slice elems spare => simp [Rows.uptoBulk]
  | agg parts => simp [Rows.uptoBulk]
  | iface t d => simp [Rows.uptoBulk]
  | map entries => simp [Rows.uptoBulk]
  | held h => simp [Rows.uptoBulk]
theorem bulk_len {H : Type} (l : List (DataW H)) : l.length ≤ Rows.uptoBulkAll l := by
  induction l with
  | nil => simp [Rows.uptoBulkAll]
  | cons x r ih => have := bulk_one x; simp only [Rows.uptoBulkAll, List.length_cons]; omega
theorem bulk_slice {H : Type} {enc : TypeId × Value → H} {W : World} {t e fuel n cap : Nat} {p : Option Addr} {d : DataW H} {ps : List MemPlace} (ht : Try.prog.underlying t = some (.slice e))
    (h : DataW.trod enc Try.prog W 0 (fun _ => true) true fuel t [.slice p n cap] = some (d, ps)) : n ≤ Rows.uptoBulk d := by
  generalize hy : (d, ps) = y at h
  have hd : d = y.1 := by rw [← hy]
  rw [hd]
  clear hy hd
  rcases Deep.open_slice ht h with ⟨hc, -⟩ | ⟨a, len, c2, mm, m, D, Pl, hc, -, hlen, hmax, hm, rfl, hel⟩
  · have hc : Value.slice p n cap = .slice none 0 0 := by simpa using hc
    cases hc
    exact Nat.zero_le _
  · have hc : Value.slice p n cap = .slice (some a) len c2 := by simpa using hc
    cases hc
    simp only [Rows.uptoBulk]
    have h1 := bulk_len ((List.range n).map D)
    simp only [List.length_map, List.length_range] at h1
    omega
set_option maxRecDepth 100000 in
theorem lifted (os : Os) (started : os.Started) (H : Type) (enc : TypeId × Value → H) (F : Stop.Interp) :
    ReturnsInHanded {} Try.checked os 13 .any ((Rows.OpenSpec.upto Rows.sequenceTypedSpec).pre6 enc Try.prog Try.f13 Rows.sequenceTypedUptoRow.domain false) (((Rows.OpenSpec.upto Rows.sequenceTypedSpec).at F).post enc Try.prog Try.f13 false true false false) := by
  refine returnsInHanded_of_cond_sized (C := Try.checked) (s := Rows.OpenSpec.upto Rows.sequenceTypedSpec) (k := Rows.uptoSmall) rfl own started (by kernel_rfl) Try.func13
    (OpenSpec.witness (enc := enc) (C := Try.checked) (s := Rows.OpenSpec.upto Rows.sequenceTypedSpec) (k := Rows.uptoSmall) rfl false ⟨#[], #[.slice none 0 0, .int .i64 0], []⟩ 8 (by kernel_rfl) (by kernel_rfl) (by kernel_rfl)
      (x := ([.nil, .lit (.int .i64 0)], [], [])) (by kernel_rfl) rfl (by kernel_rfl)) ?_
  intro W base args ds gs before hval0 hW _ hk hsz0 _
  show Calls Try.prog 13 args W fun e W' => ∃ v, e = .returned v ∧ Rows.sequenceTypedSpec.post enc Try.prog Try.f13 false true false false W args v W'
  have hval : ∀ (j : Nat) t v, Try.f13.params[j]? = some t → args[j]? = some v → Value.okWide Try.prog W .any base t v := hval0
  have hW' := hW
  obtain ⟨p, q, hA0, hV, rfl, hfz, hnd⟩ := hW
  have hA : DataW.TrodAll enc Try.prog W 0 (fun _ => true) true Try.f13.params.toList args.toList ds p := hA0
  have hsz : ∀ (j : Nat) t d, Try.f13.params[j]? = some t → ds[j]? = some d → (d.weights Try.prog t).all (· ≤ 140737488351232) = true := by
    intro j t d ht hd
    refine List.all_eq_true.2 fun x hx => List.all_eq_true.1 hsz0 x (DataW.weights_mem_each (j := j) ?_ ?_ x hx)
    · rw [List.getElem?_append_left (by have := (Array.getElem?_eq_some_iff.1 ht).1; simpa using this)]; simpa using ht
    · rw [List.getElem?_append_left (List.getElem?_eq_some_iff.1 hd).1]; exact hd
  rw [Try.params13] at hA hval hsz
  obtain ⟨v0, vs0, d0, ds0, p0, q0, hargs, rfl, rfl, h0, r0⟩ := trodAll_cons hA
  obtain ⟨v1, vs1, d1, ds1, p1, q1, rfl, rfl, rfl, h1, r1⟩ := trodAll_cons r0
  obtain ⟨rfl, rfl, rfl⟩ := trodAll_nil r1
  obtain rfl : args = #[v0, v1] := by cases args; simp_all
  obtain ⟨rfl, rfl⟩ := trodVars_none hV
  have bulk0 := h0.choose_spec
  have k0 := h0
  have lt0 : ∀ x ∈ p0, x.block < W.heap.size := by obtain ⟨m, hm⟩ := k0; exact DataW.trod_lt m _ _ _ hm
  obtain ⟨p0', l0, c0, rfl, b0, n0, z0, y0⟩ := sts_open Try.underlying42 Try.underlying9 (by kernel_rfl) (by kernel_rfl) (by obtain ⟨a, b, c, hh⟩ := okWide_slice Try.underlying42 (hval 0 42 v0 rfl rfl); exact ⟨a, b, c, hh⟩) h0.choose_spec (hsz 0 42 d0 rfl rfl)
  obtain ⟨a1, rfl, rfl, rfl, w1⟩ := open_int Try.underlying3 (hval 1 3 v1 rfl rfl) h1
  simp only [List.append_nil] at hk
  have hk' := of_decide_eq_true hk
  simp only [Rows.uptoBulkAll] at hk'
  have bk0 := bulk_slice Try.underlying42 bulk0
  clear hA0 hval0 hsz hsz0
  refine (typed_walk p0' l0 c0 a1 W b0 n0 z0 y0 w1 (by have := hk'; omega)).mono fun e W' ⟨he, bel⟩ => ?_
  subst he
  exact ⟨_, rfl, _, _, _, [], _, [], hW', trodAll_mk1 (shut_bool Try.underlying4 _), (trodAll_cons_mk (Below.trod laidOut (by kernel_rfl) (of_decide_eq_true (by kernel_rfl)) k0 bel lt0) (trodAll_cons_mk (shut_int Try.underlying3 w1) trodAll_mk0)), rfl, bel.frame _, fun h => by cases h⟩

theorem over : Rows.sequenceTypedUptoRow.holds Try.pinned (Rows.OpenSpec.upto Rows.sequenceTypedSpec) :=
  OpenClaim.holds_of_cond 13 Try.f13 rfl rfl rfl rfl rfl rfl rfl ⟨rfl, rfl, rfl, rfl, rfl⟩ rfl rfl rfl rfl rfl (by kernel_rfl) Try.func13 (by kernel_rfl)
    (of_decide_eq_true (by kernel_rfl)) (by unfold Func.isWrapper; first | (rw [if_pos (by decide +kernel)]; kernel_rfl) | (rw [if_neg (by decide +kernel)]; exact ⟨rfl, rfl⟩))
    (fun os started H enc _ F => lifted os started H enc F)

theorem proved : Rows.SequenceTypedUptoSaid := over
end Go.Proofs.Ytidncnhhjfdifaa.lawSequenceTyped
