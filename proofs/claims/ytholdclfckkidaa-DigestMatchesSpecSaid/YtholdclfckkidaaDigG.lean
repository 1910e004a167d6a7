/-
  The walk of DigestLastByte.
-/
import Derived.Test.YtholdclfckkidaaDigF
namespace Go.Proofs.Ytholdclfckkidaa
open Go.RowKit Go.Lib

theorem ofC_zero (l : List Nat) (h : l.length ≤ 4096) : ofC l = 0 := by rw [ofC, if_pos h]
theorem ofC_two (l : List Nat) (h : ¬ l.length ≤ 4096) : ofC l = 2 := by rw [ofC, if_neg h]
theorem ofV_ok (l : List Nat) (h : l.length ≤ 4096) : ofV l = (Dig.dof l : Nat) := by rw [ofV, if_pos h]

set_option maxHeartbeats 2000000 in
theorem lastByte_walk (p : Option Addr) (l : List Nat) (cap : Nat) (c d : Int) (w : World) (hp : Bts w p l) (hcap : p = none → cap = 0) (hl : l.length ≤ 140737488351232) (wc : (Lit.int .u8 c).wf = true) (wd : (Lit.int .u8 d).wf = true) :
    Calls Try.prog 5 #[.slice p l.length cap, .int .u8 c, .int .u8 d] w (TPost w) := by
  obtain ⟨c', rfl, hc⟩ : ∃ n : Nat, c = n ∧ n < 256 := ⟨c.toNat, by simp [Lit.wf, IntKind.min, IntKind.max, IntKind.signed, IntKind.bits] at wc; omega, by simp [Lit.wf, IntKind.min, IntKind.max, IntKind.signed, IntKind.bits] at wc; omega⟩
  obtain ⟨d', rfl, hd⟩ : ∃ n : Nat, d = n ∧ n < 256 := ⟨d.toNat, by simp [Lit.wf, IntKind.min, IntKind.max, IntKind.signed, IntKind.bits] at wd; omega, by simp [Lit.wf, IntKind.min, IntKind.max, IntKind.signed, IntKind.bits] at wd; omega⟩
  have HP := Lib.hid hp
  have HC := Lib.hid hcap
  clear hp hcap wc wd
  go_enter Try.func5, Try.ntmps5
  go_wp2_with (first
    | (at_builtin; refine wp_app8 rfl (.tmp 12) (.tmp 13) rfl w.heap.size _ [] l p cap rfl (own8_empty _ _ _ rfl (Nat.le_refl _)) rfl (HP.out.mono (up_alloc (Below.refl _ _) _)) HC.out (by simp; omega) (by simp) ?_; intro v1 w1 own1 bel1)
    | (at_builtin; refine wp_app8 rfl (.tmp 14) (.tmp 16) rfl w.heap.size _ _ [c'] _ _ rfl (own1.alloc _) rfl (bts_one _ _ c' rfl hc) (fun h => by cases h) (by simp; omega) (by have := bel1.size; simp at this; simp; omega) ?_; intro v2 w2 own2 bel2))
  obtain ⟨p2, cap2, rfl, bt2, -⟩ := bts_of_own own2 (snoc_small HP.out.small hc) (by simp; omega)
  have u2 : Below w.heap.size w w2 := up_own (up_alloc (up_own (up_alloc (Below.refl _ _) _) bel1) _) bel2
  refine (of_any _ (l ++ [c']) _ _ _ (by simp) bt2).mono ?_
  rintro e w3 ⟨rfl, hb3⟩
  have u3 := up_call u2 hb3
  have hz3 := u3.size
  have HQ := Lib.hid (HP.out.mono u3)
  have F1 := Lib.hid (Flt.new w3 (ofC (l ++ [c'])) 0 25)
  clear own1 own2 bel1 bel2 u2 hb3 bt2
  go_wp2_with (first
    | (at_builtin; refine wp_app8 rfl (.tmp 22) (.tmp 23) rfl (w3.heap.size + 1) _ [] l p cap rfl (own8_empty _ _ _ (by simp) (by simp)) rfl (HQ.out.mono (up_alloc (up_alloc (Below.refl _ _) _) _)) HC.out (by simp; omega) (by simp) ?_; intro v4 w4 own4 bel4)
    | (at_builtin; refine wp_app8 rfl (.tmp 24) (.tmp 26) rfl (w3.heap.size + 1) _ _ [d'] _ _ rfl (own4.alloc _) rfl (bts_one _ _ d' rfl hd) (fun h => by cases h) (by simp; omega) (by have := bel4.size; simp at this; simp; omega) ?_; intro v5 w5 own5 bel5))
  obtain ⟨p5, cap5, rfl, bt5, -⟩ := bts_of_own own5 (snoc_small HP.out.small hd) (by simp; omega)
  have e5 : Below (w3.heap.size + 1) (w3.alloc (.cells #[.int .i64 (ofC (l ++ [c'])), .int .i64 0] 25 (0, 0))) w5 :=
    ((((Below.refl _ _).alloc (by simp) _).trans bel4).alloc (by have := bel4.size; simp at this; omega) _).trans bel5
  refine (of_any _ (l ++ [d']) _ _ _ (by simp) bt5).mono ?_
  rintro e w6 ⟨rfl, hb6⟩
  have e6 := e5.trans (hb6.mono (by have := e5.size; simp at this; omega))
  have u6 := Lib.hid ((up_alloc u3 _).trans (e6.mono (by omega)))
  obtain ⟨c0, -, -, -, l0⟩ := F1.out.mono e6 (by omega)
  clear own4 own5 bel4 bel5 e5 hb6 bt5 e6 u3
  by_cases hlen : l.length + 1 ≤ 4096
  · have k1 : (ofC (l ++ [c']) != 0) = false := by rw [ofC_zero _ (by simp; omega)]; rfl
    have k2 : (ofC (l ++ [d']) != 0) = false := by rw [ofC_zero _ (by simp; omega)]; rfl
    by_cases hcd : c' = d'
    · subst hcd
      go_wp2_with fail
      refine (closed_any _).mono ?_
      rintro e w' ⟨rfl, hb7⟩
      go_wp2_with fail
      go_ret
      refine ⟨rfl, ?_⟩
      exact up_call (up_alloc u6.out _) hb7
    · have h1 : (ofV (l ++ [c']) == ofV (l ++ [d'])) = false := by
        rw [beq_eq_false_iff_ne, ofV_ok _ (by simp; omega), ofV_ok _ (by simp; omega), Dig.dof_snoc, Dig.dof_snoc]
        intro e
        exact hcd (Dig.step_inj _ _ _ hc hd (Int.ofNat_inj.1 e))
      have h2 : ((c' : Int) == (d' : Int)) = false := by rw [beq_eq_false_iff_ne]; omega
      go_wp2_with fail
      refine (closed_any _).mono ?_
      rintro e w' ⟨rfl, hb7⟩
      go_wp2_with fail
      go_ret
      refine ⟨rfl, ?_⟩
      exact up_call (up_alloc u6.out _) hb7
  · have k1 : (ofC (l ++ [c']) != 0) = true := by rw [ofC_two _ (by simp; omega)]; rfl
    go_wp2_with fail
    refine (closed_any _).mono ?_
    rintro e w' ⟨rfl, hb7⟩
    go_wp2_with fail
    go_ret
    refine ⟨rfl, ?_⟩
    exact up_call (up_alloc u6.out _) hb7
end Go.Proofs.Ytholdclfckkidaa
