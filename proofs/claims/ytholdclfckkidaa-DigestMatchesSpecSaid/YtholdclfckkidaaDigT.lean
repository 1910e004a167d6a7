/-
  The walk of DigestMatchesSpec.
-/
import Derived.Test.YtholdclfckkidaaDigS
import Derived.Deep.RegionHeld3
namespace Go.Proofs.Ytholdclfckkidaa
open Go.RowKit Go.Lib

set_option maxHeartbeats 4000000 in
set_option maxRecDepth 100000 in
theorem matchesSpec_walk (p : Option Addr) (l : List Nat) (cap : Nat) (a b : Int) (q : Option Addr) (m : List ByteArray) (qap : Nat) (w : World)
    (hp : Bts w p l) (_ : p = none → cap = 0) (_ : l.length ≤ 140737488351232) (_ : (Lit.int .i64 a).wf = true) (_ : (Lit.int .i64 b).wf = true) (hq : Sts w q m) (_ : q = none → qap = 0) (_ : m.length ≤ 8796093021952) :
    Calls Try.prog 3 #[.slice p l.length cap, .int .i64 a, .int .i64 b, .slice q m.length qap] w (TPost w) := by
  have HP := Lib.hid hp
  have HR := Lib.hid hq
  clear hp hq
  go_enter Try.func3, Try.ntmps3
  go_wp2_with fail
  refine (of_any _ l _ _ _ rfl HP.out).mono ?_
  rintro e w1 ⟨rfl, u1⟩
  by_cases hl : l.length ≤ 4096
  case' pos =>
    have gl : decide ((4096 : Int) < (l.length : Int)) = false := by rw [decide_eq_false_iff_not]; omega
    rw [ofC_zero l hl, ofV_ok l hl]
    go_wp2_with fail
    refine (refOf_any _ l _ _ _ rfl (HP.out.mono (up_alloc u1 _))).mono ?_
    rintro e w2 ⟨rfl, n2, rfl⟩
    have uA := below_drewN (up_alloc u1 (.cells #[.int .i64 0, .int .i64 0] 25 (0, 0))) n2
    clear u1 gl hl
    go_wp2_with fail
  case' neg =>
    have gl : decide ((4096 : Int) < (l.length : Int)) = true := by rw [decide_eq_true_iff]; omega
    rw [ofC_two l hl, show ofV l = 0 from if_neg hl]
    go_wp2_with fail
    go_region_held3 (fun w' => w'.cell? ⟨w1.heap.size, 0, none⟩ = some (.int .i64 2) ∧ w'.cell? ⟨w1.heap.size, 1, none⟩ = some (.int .i64 0)) (go_keep)
      (first | (go_at_call 10; refine (at_any _ _ _).mono ?_; rintro e w2 ⟨rfl, hb2⟩; obtain ⟨hc2, hf2⟩ := bcell hb2))
    have uA := up_call (up_alloc u1 (.cells #[.int .i64 2, .int .i64 0] 25 (0, 0))).drew hb2
    clear u1 gl hl hb2 hc2 hf2
    go_wp2_with fail
  all_goals (
    refine (pair_any a b _).mono ?_
    rintro e w3 ⟨rfl, hb3⟩
    have u3 := up_call uA hb3
    clear uA hb3
    have hab : (Dg a ∧ Dg b) ∨ (Dg a ∧ ¬ Dg b) ∨ ¬ Dg a := by
      by_cases ha : Dg a
      · by_cases hb : Dg b
        · exact .inl ⟨ha, hb⟩
        · exact .inr (.inl ⟨ha, hb⟩)
      · exact .inr (.inr ha)
    rcases hab with ⟨ha, hb⟩ | ⟨ha, hb⟩ | ha
    case' inl =>
      obtain ⟨a0, rfl⟩ := Int.eq_ofNat_of_zero_le ha.1
      obtain ⟨b0, rfl⟩ := Int.eq_ofNat_of_zero_le hb.1
      have ha0 : a0 < 2305843009213693951 := by have := ha.2; omega
      have hb0 : b0 < 2305843009213693951 := by have := hb.2; omega
      rw [show pV (a0 : Int) (b0 : Int) = (Dig.pr a0 b0 : Nat) by simp [pV, ha, hb], show pC (a0 : Int) (b0 : Int) = 0 by simp [pC, ha, hb], show pI (a0 : Int) (b0 : Int) = 0 by simp [pI, hb]]
      go_wp2_with fail
      refine (isDigest_any (a0 : Int) true (by simp [ha]) _).mono ?_
      rintro e w4 ⟨rfl, rfl⟩
      go_wp2_with fail
      refine (isDigest_any (b0 : Int) true (by simp [hb]) _).mono ?_
      rintro e w4 ⟨rfl, rfl⟩
      go_wp2_with fail
      refine (refPair_any a0 b0 ha0 hb0 _).mono ?_
      rintro e w4 ⟨rfl, rfl⟩
      have uB := up_alloc u3 (.cells #[.int .i64 0, .int .i64 0] 25 (0, 0))
      clear u3 ha hb ha0 hb0
      go_wp2_with fail
    case' inr.inl =>
      rw [show pV a b = 0 by simp [pV, hb], show pC a b = 3 by simp [pC, hb], show pI a b = 1 by simp [pI, ha, hb]]
      go_wp2_with fail
      refine (isDigest_any a true (by simp [ha]) _).mono ?_
      rintro e w4 ⟨rfl, rfl⟩
      go_wp2_with fail
      refine (isDigest_any b false (by simp [hb]) _).mono ?_
      rintro e w4 ⟨rfl, rfl⟩
      go_wp2_with fail
      go_region_held3 (fun w' => w'.cell? ⟨w3.heap.size, 0, none⟩ = some (.int .i64 3) ∧ w'.cell? ⟨w3.heap.size, 1, none⟩ = some (.int .i64 1)) (go_keep)
        (first | (go_at_call 10; refine (at_any _ _ _).mono ?_; rintro e w5 ⟨rfl, hb5⟩; obtain ⟨hc5, hf5⟩ := bcell hb5))
      have uB := up_call (up_alloc u3 (.cells #[.int .i64 3, .int .i64 1] 25 (0, 0))).drew hb5
      clear u3 hb5 hc5 hf5 ha hb
      go_wp2_with fail
    case' inr.inr =>
      rw [show pV a b = 0 by simp [pV, ha], show pC a b = 3 by simp [pC, ha], show pI a b = 0 by simp [pI, ha]]
      go_wp2_with fail
      refine (isDigest_any a false (by simp [ha]) _).mono ?_
      rintro e w4 ⟨rfl, rfl⟩
      go_wp2_with fail
      go_region_held3 (fun w' => w'.cell? ⟨w3.heap.size, 0, none⟩ = some (.int .i64 3) ∧ w'.cell? ⟨w3.heap.size, 1, none⟩ = some (.int .i64 0)) (go_keep)
        (first | (go_at_call 10; refine (at_any _ _ _).mono ?_; rintro e w5 ⟨rfl, hb5⟩; obtain ⟨hc5, hf5⟩ := bcell hb5))
      have uB := up_call (up_alloc u3 (.cells #[.int .i64 3, .int .i64 0] 25 (0, 0))).drew hb5
      clear u3 hb5 hc5 hf5 ha
      go_wp2_with fail)
  all_goals (
    refine (strings_any _ m _ _ _ rfl (HR.out.mono uB)).mono ?_
    rintro e w6 ⟨rfl, hb6⟩
    have u6 := up_call uB hb6
    have F6 := Lib.hid (Flt.new w6 (stC m) (stI m) 25)
    clear uB hb6
    go_wp2_with fail
    refine (refStrings_any _ m _ _ _ rfl (HR.out.mono (up_alloc u6 _))).mono ?_
    rintro e w7 ⟨rfl, hb7⟩
    obtain ⟨c0, c1, -, -, l0⟩ := F6.out.up hb7
    have u7 := Lib.hid (up_call (up_alloc u6 _) hb7)
    clear u6 F6 hb7
    go_wp2_with fail
    refine (closed_any _).mono ?_
    rintro e w' ⟨rfl, hb8⟩
    go_wp2_with fail
    go_ret
    refine ⟨rfl, ?_⟩
    exact up_call (up_alloc u7.out _) hb8)
end Go.Proofs.Ytholdclfckkidaa
