/-
  Package digest: Pair and Strings, and the law's own check 'closed', walked.
-/
import Derived.Test.YtholdclfckkidaaDigB
namespace Go.Proofs.Ytholdclfckkidaa
open Go.RowKit Go.Lib

def flt (c i : Int) : Value := .agg #[.int .i64 c, .int .i64 i]

theorem idx0 (a b : Int) (w : World) : (Instr.index 42 (.agg #[.int .i64 a, .int .i64 b]) (.int .i64 0)).run Try.prog w = .ok (.int .i64 a) w := by kernel_rfl
theorem idx1 (a b : Int) (w : World) : (Instr.index 42 (.agg #[.int .i64 a, .int .i64 b]) (.int .i64 1)).run Try.prog w = .ok (.int .i64 b) w := by kernel_rfl

set_option maxHeartbeats 400000 in
set_option maxRecDepth 100000 in
theorem pair_bad0 (a b : Int) (h : a < 0 ∨ 2305843009213693951 ≤ a) (w : World) :
    Calls Try.prog 12 #[.int .i64 a, .int .i64 b] w (BPost (.tuple #[.int .i64 0, .agg #[.int .i64 3, .int .i64 0]]) w) := by
  by_cases h0 : a < 0
  · have g0 : decide (a < 0) = true := by simpa using h0
    have i0 := idx0 a b
    have i1 := idx1 a b
    go_enter Try.func12, Try.ntmps12
    go_wp2
    go_rounds 1
    go_returns
    refine ⟨rfl, ?_⟩; (repeat' (first | (with_reducible exact Below.refl _ _) | (with_reducible assumption) | (with_reducible refine below_drewN ?_ _) | (with_reducible refine Below.setCell ?_ ?_ _) | (with_reducible refine Below.alloc ?_ ?_ _) | (with_reducible refine Below.drew ?_) | go_size))
  · have g0 : decide (a < 0) = false := by simpa using h0
    have g1 : decide (2305843009213693951 ≤ a) = true := by rw [decide_eq_true_iff]; omega
    have i0 := idx0 a b
    have i1 := idx1 a b
    go_enter Try.func12, Try.ntmps12
    go_wp2
    go_rounds 1
    go_returns
    refine ⟨rfl, ?_⟩; (repeat' (first | (with_reducible exact Below.refl _ _) | (with_reducible assumption) | (with_reducible refine below_drewN ?_ _) | (with_reducible refine Below.setCell ?_ ?_ _) | (with_reducible refine Below.alloc ?_ ?_ _) | (with_reducible refine Below.drew ?_) | go_size))

set_option maxHeartbeats 400000 in
set_option maxRecDepth 100000 in
theorem pair_bad1 (a b : Int) (ha : 0 ≤ a) (ha' : a < 2305843009213693951) (h : b < 0 ∨ 2305843009213693951 ≤ b) (w : World) :
    Calls Try.prog 12 #[.int .i64 a, .int .i64 b] w (BPost (.tuple #[.int .i64 0, .agg #[.int .i64 3, .int .i64 1]]) w) := by
  have g0 : decide (a < 0) = false := by rw [decide_eq_false_iff_not]; omega
  have g1 : decide (2305843009213693951 ≤ a) = false := by rw [decide_eq_false_iff_not]; omega
  have H := Lib.hid h
  by_cases h0 : b < 0
  · have g2 : decide (b < 0) = true := by simpa using h0
    clear ha ha' h h0
    have i0 := idx0 a b
    have i1 := idx1 a b
    go_enter Try.func12, Try.ntmps12
    go_wp2
    go_rounds 2
    go_returns
    refine ⟨rfl, ?_⟩; (repeat' (first | (with_reducible exact Below.refl _ _) | (with_reducible assumption) | (with_reducible refine below_drewN ?_ _) | (with_reducible refine Below.setCell ?_ ?_ _) | (with_reducible refine Below.alloc ?_ ?_ _) | (with_reducible refine Below.drew ?_) | go_size))
  · have g2 : decide (b < 0) = false := by simpa using h0
    have g3 : decide (2305843009213693951 ≤ b) = true := by rw [decide_eq_true_iff]; omega
    clear ha ha' h h0
    have i0 := idx0 a b
    have i1 := idx1 a b
    go_enter Try.func12, Try.ntmps12
    go_wp2
    go_rounds 2
    go_returns
    refine ⟨rfl, ?_⟩; (repeat' (first | (with_reducible exact Below.refl _ _) | (with_reducible assumption) | (with_reducible refine below_drewN ?_ _) | (with_reducible refine Below.setCell ?_ ?_ _) | (with_reducible refine Below.alloc ?_ ?_ _) | (with_reducible refine Below.drew ?_) | go_size))

set_option maxHeartbeats 400000 in
set_option maxRecDepth 100000 in
theorem pair_ok (a b : Nat) (ha : a < 2305843009213693951) (hb : b < 2305843009213693951) (w : World) :
    Calls Try.prog 12 #[.int .i64 a, .int .i64 b] w (BPost (.tuple #[.int .i64 (Dig.pr a b : Nat), (.agg #[.int .i64 0, .int .i64 0])]) w) := by
  have g0 : decide ((a : Int) < 0) = false := by rw [decide_eq_false_iff_not]; omega
  have g1 : decide (2305843009213693951 ≤ (a : Int)) = false := by rw [decide_eq_false_iff_not]; omega
  have g2 : decide ((b : Int) < 0) = false := by rw [decide_eq_false_iff_not]; omega
  have g3 : decide (2305843009213693951 ≤ (b : Int)) = false := by rw [decide_eq_false_iff_not]; omega
  have HA := Lib.hid ha
  have HB := Lib.hid hb
  clear ha hb
  have i0 := idx0 a b
  have i1 := idx1 a b
  go_enter Try.func12, Try.ntmps12
  go_wp2
  refine wp_loop_rounds 3 ?_
  rw [rounds_succ]; go_wp2_with fail
  rw [rounds_succ]; go_wp2_with fail
  rw [rounds_succ]; go_wp2_with fail
  refine (combine_eq a b _ HA.out HB.out rfl _).mono ?_
  rintro e w' ⟨rfl, n, rfl⟩
  go_wp2_with fail
  go_returns
  refine ⟨rfl, ?_⟩; (repeat' (first | (with_reducible exact Below.refl _ _) | (with_reducible assumption) | (with_reducible refine below_drewN ?_ _) | (with_reducible refine Below.setCell ?_ ?_ _) | (with_reducible refine Below.alloc ?_ ?_ _) | (with_reducible refine Below.drew ?_) | go_size))
end Go.Proofs.Ytholdclfckkidaa
