/-
  The walk of DigestExtends.
-/
import Derived.Test.YtholdclfckkidaaDigG
namespace Go.Proofs.Ytholdclfckkidaa
open Go.RowKit Go.Lib

theorem step_iff (l m : List Nat) (c : Nat) : (Dig.dof (l ++ [c]) = Dig.dof (m ++ [c])) ↔ Dig.dof l = Dig.dof m := by
  rw [Dig.dof_snoc, Dig.dof_snoc]
  exact ⟨fun h => Dig.step_left _ _ _ (Dig.dof_lt _) (Dig.dof_lt _) h, fun h => by rw [h]⟩

set_option maxHeartbeats 4000000 in
theorem extends_walk (p : Option Addr) (l : List Nat) (cap : Nat) (q : Option Addr) (m : List Nat) (qap : Nat) (c : Int) (w : World)
    (hp : Bts w p l) (hcap : p = none → cap = 0) (hl : l.length ≤ 140737488351232) (hq : Bts w q m) (hqap : q = none → qap = 0) (hm : m.length ≤ 140737488351232) (wc : (Lit.int .u8 c).wf = true) :
    Calls Try.prog 4 #[.slice p l.length cap, .slice q m.length qap, .int .u8 c] w (TPost w) := by
  obtain ⟨c', rfl, hc⟩ : ∃ n : Nat, c = n ∧ n < 256 := ⟨c.toNat, by simp [Lit.wf, IntKind.min, IntKind.max, IntKind.signed, IntKind.bits] at wc; omega, by simp [Lit.wf, IntKind.min, IntKind.max, IntKind.signed, IntKind.bits] at wc; omega⟩
  have HP := Lib.hid hp
  have HC := Lib.hid hcap
  have HR := Lib.hid hq
  have HD := Lib.hid hqap
  clear hp hcap hq hqap wc
  go_enter Try.func4, Try.ntmps4
  go_wp2_with fail
  refine (of_any _ l _ _ _ rfl HP.out).mono ?_
  rintro e w1 ⟨rfl, u1⟩
  have F1 := Lib.hid (Flt.new w1 (ofC l) 0 25)
  go_wp2_with fail
  refine (of_any _ m _ _ _ rfl (HR.out.mono (up_alloc u1 _))).mono ?_
  rintro e w2 ⟨rfl, hb2⟩
  have F1' := Lib.hid (F1.out.up hb2)
  have F2 := Lib.hid (Flt.new w2 (ofC m) 0 25)
  have u2 := up_call (up_alloc u1 _) hb2
  have hz2 := u2.size
  have HP2 := Lib.hid (HP.out.mono u2)
  clear hb2 u1 F1
  go_wp2_with (first
    | (at_builtin; refine wp_app8 rfl (.tmp 26) (.tmp 27) rfl (w2.heap.size + 1) _ [] l p cap rfl (own8_empty _ _ _ (by simp) (by simp)) rfl (HP2.out.mono (up_alloc (up_alloc (Below.refl _ _) _) _)) HC.out (by simp; omega) (by simp) ?_; intro v4 w4 own4 bel4)
    | (at_builtin; refine wp_app8 rfl (.tmp 28) (.tmp 30) rfl (w2.heap.size + 1) _ _ [c'] _ _ rfl (own4.alloc _) rfl (bts_one _ _ c' rfl hc) (fun h => by cases h) (by simp; omega) (by have := bel4.size; simp at this; simp; omega) ?_; intro v5 w5 own5 bel5))
  obtain ⟨p5, cap5, rfl, bt5, -⟩ := bts_of_own own5 (snoc_small HP.out.small hc) (by simp; omega)
  have e5 : Below (w2.heap.size + 1) (w2.alloc (.cells #[.int .i64 (ofC m), .int .i64 0] 25 (0, 0))) w5 :=
    ((((Below.refl _ _).alloc (by simp) _).trans bel4).alloc (by have := bel4.size; simp at this; omega) _).trans bel5
  refine (of_any _ (l ++ [c']) _ _ _ (by simp) bt5).mono ?_
  rintro e w6 ⟨rfl, hb6⟩
  have e6 := e5.trans (hb6.mono (by have := e5.size; simp at this; omega))
  have u6 := ((up_alloc u2 _).trans (e6.mono (by omega)))
  have F1'' := Lib.hid ((F1'.out.alloc (.cells #[.int .i64 (ofC m), .int .i64 0] 25 (0, 0))).mono e6 (by have := F1'.out.lt; omega))
  have F2' := Lib.hid (F2.out.mono e6 (by omega))
  have F3 := Lib.hid (Flt.new w6 (ofC (l ++ [c'])) 0 25)
  have HR6 := Lib.hid (HR.out.mono u6)
  have hz6 := u6.size
  clear own4 own5 bel4 bel5 e5 hb6 bt5 e6 u2 F1' F2 HP2
  go_wp2_with (first
    | (at_builtin; refine wp_app8 rfl (.tmp 36) (.tmp 37) rfl (w6.heap.size + 1) _ [] m q qap rfl (own8_empty _ _ _ (by simp) (by simp)) rfl (HR6.out.mono (up_alloc (up_alloc (Below.refl _ _) _) _)) HD.out (by simp; omega) (by simp) ?_; intro v7 w7 own7 bel7)
    | (at_builtin; refine wp_app8 rfl (.tmp 38) (.tmp 40) rfl (w6.heap.size + 1) _ _ [c'] _ _ rfl (own7.alloc _) rfl (bts_one _ _ c' rfl hc) (fun h => by cases h) (by simp; omega) (by have := bel7.size; simp at this; simp; omega) ?_; intro v8 w8 own8 bel8))
  obtain ⟨p8, cap8, rfl, bt8, -⟩ := bts_of_own own8 (snoc_small HR.out.small hc) (by simp; omega)
  have e8 : Below (w6.heap.size + 1) (w6.alloc (.cells #[.int .i64 (ofC (l ++ [c'])), .int .i64 0] 25 (0, 0))) w8 :=
    ((((Below.refl _ _).alloc (by simp) _).trans bel7).alloc (by have := bel7.size; simp at this; omega) _).trans bel8
  refine (of_any _ (m ++ [c']) _ _ _ (by simp) bt8).mono ?_
  rintro e w9 ⟨rfl, hb9⟩
  have e9 := e8.trans (hb9.mono (by have := e8.size; simp at this; omega))
  have u9 := Lib.hid ((up_alloc u6 _).trans (e9.mono (by omega)))
  obtain ⟨c1, -, -, -, l1⟩ := (F1''.out.alloc (.cells #[.int .i64 (ofC (l ++ [c'])), .int .i64 0] 25 (0, 0))).mono e9 (by have := F1''.out.lt; omega)
  obtain ⟨c2, -, -, -, l2⟩ := (F2'.out.alloc (.cells #[.int .i64 (ofC (l ++ [c'])), .int .i64 0] 25 (0, 0))).mono e9 (by have := F2'.out.lt; omega)
  obtain ⟨c3, -, -, -, l3⟩ := F3.out.mono e9 (by omega)
  clear own7 own8 bel7 bel8 e8 hb9 bt8 e9 u6 F1'' F2' F3 HR6
  by_cases h1 : l.length + 1 ≤ 4096 ∧ m.length + 1 ≤ 4096
  · obtain ⟨h1, h2⟩ := h1
    have k1 : (ofC (l ++ [c']) != 0) = false := by rw [ofC_zero _ (by simp; omega)]; rfl
    have k2 : (ofC (m ++ [c']) != 0) = false := by rw [ofC_zero _ (by simp; omega)]; rfl
    have k3 : (ofC l != 0) = false := by rw [ofC_zero _ (by omega)]; rfl
    have k4 : (ofC m != 0) = false := by rw [ofC_zero _ (by omega)]; rfl
    by_cases hcd : Dig.dof l = Dig.dof m
    · have h5 : (ofV l == ofV m) = true := by rw [beq_iff_eq, ofV_ok _ (by omega), ofV_ok _ (by omega), hcd]
      have h6 : (ofV (l ++ [c']) == ofV (m ++ [c'])) = true := by rw [beq_iff_eq, ofV_ok _ (by simp; omega), ofV_ok _ (by simp; omega), (step_iff l m c').2 hcd]
      clear hcd
      go_wp2_with fail
      refine (closed_any _).mono ?_
      rintro e w' ⟨rfl, hb7⟩
      go_wp2_with fail
      go_ret
      refine ⟨rfl, ?_⟩
      exact up_call (up_alloc u9.out _) hb7
    · have h5 : (ofV l == ofV m) = false := by
        rw [beq_eq_false_iff_ne, ofV_ok _ (by omega), ofV_ok _ (by omega)]
        intro e; exact hcd (Int.ofNat_inj.1 e)
      have h6 : (ofV (l ++ [c']) == ofV (m ++ [c'])) = false := by
        rw [beq_eq_false_iff_ne, ofV_ok _ (by simp; omega), ofV_ok _ (by simp; omega)]
        intro e; exact hcd ((step_iff l m c').1 (Int.ofNat_inj.1 e))
      clear hcd
      go_wp2_with fail
      refine (closed_any _).mono ?_
      rintro e w' ⟨rfl, hb7⟩
      go_wp2_with fail
      go_ret
      refine ⟨rfl, ?_⟩
      exact up_call (up_alloc u9.out _) hb7
  · have hk : (ofC l != 0) = true ∨ (ofC l != 0) = false ∧ (ofC m != 0) = true ∨ (ofC l != 0) = false ∧ (ofC m != 0) = false ∧ (ofC (l ++ [c']) != 0) = true ∨ (ofC l != 0) = false ∧ (ofC m != 0) = false ∧ (ofC (l ++ [c']) != 0) = false ∧ (ofC (m ++ [c']) != 0) = true := by
      unfold ofC
      simp only [List.length_append, List.length_singleton]
      repeat' split
      all_goals first | (exfalso; omega) | simp
    rcases hk with k1 | ⟨k1, k2⟩ | ⟨k1, k2, k3⟩ | ⟨k1, k2, k3, k4⟩
    all_goals
      go_wp2_with fail
      refine (closed_any _).mono ?_
      rintro e w' ⟨rfl, hb7⟩
      go_wp2_with fail
      go_ret
      refine ⟨rfl, ?_⟩
      exact up_call (up_alloc u9.out _) hb7
end Go.Proofs.Ytholdclfckkidaa
