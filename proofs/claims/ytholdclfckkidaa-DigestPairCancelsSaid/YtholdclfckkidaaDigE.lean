/-
  The laws' own check 'closed', and the walks of DigestPairCancels and DigestLastByte.
-/
import Derived.Test.YtholdclfckkidaaDigD
namespace Go.Proofs.Ytholdclfckkidaa
open Go.RowKit Go.Lib

def TPost (w : World) (e : Ending) (w' : World) : Prop := e = .returned (.bool true) ∧ Below w.heap.size w w'

theorem of_nil (w : World) : Calls Try.prog 9 #[.slice none 0 0] w (BPost (.tuple #[.int .i64 1, (.agg #[.int .i64 0, .int .i64 0])]) w) :=
  of_ok none [] 0 (by decide) w ⟨by simp, by simp, fun _ => rfl, fun h => (h rfl).elim⟩
theorem of_at (p : Option Addr) (l : List Nat) (n cap : Nat) (w : World) (hn : n = l.length) (h : n ≤ 4096) (hp : Bts w p l) :
    Calls Try.prog 9 #[.slice p n cap] w (BPost (.tuple #[.int .i64 (Dig.dof l), (.agg #[.int .i64 0, .int .i64 0])]) w) := by
  subst hn; exact of_ok p l cap h w hp

theorem pair_zero (w : World) : Calls Try.prog 12 #[.int .i64 0, .int .i64 0] w (BPost (.tuple #[.int .i64 7, (.agg #[.int .i64 0, .int .i64 0])]) w) := by
  have h := pair_ok 0 0 (by omega) (by omega) w
  exact h

set_option maxHeartbeats 1000000 in
theorem closed_any (w : World) : Calls Try.prog 17 #[] w (TPost w) := by
  go_enter Try.func17, Try.ntmps17
  go_wp2_with fail
  refine (of_nil _).mono ?_
  rintro e w1 ⟨rfl, hb1⟩
  go_wp2_with fail
  refine (of_at _ [0] _ _ _ rfl (by decide) (bts_one _ _ 0 (by simp) (by omega))).mono ?_
  rintro e w2 ⟨rfl, hb2⟩
  have F1 := ((Flt.new w1 0 0 25).alloc (.cells #[.int .u8 ((0 : Nat) : Int)] 5)).up hb2
  go_wp2_with fail
  refine (pair_zero _).mono ?_
  rintro e w3 ⟨rfl, hb3⟩
  have F2 := (Flt.new w2 0 0 25).up hb3
  obtain ⟨c0, -, -, -, l1⟩ := (F1.alloc (.cells #[.int .i64 0, .int .i64 0] 25 (0, 0))).up hb3
  obtain ⟨d0, -, -, -, l2⟩ := F2
  go_wp2_with fail
  go_ret
  refine ⟨rfl, ?_⟩
  have b1 : Below w.heap.size w w2 := (((hb1.alloc hb1.size _).alloc (by have := hb1.size; simp; omega) _).trans (hb2.mono (by have := hb1.size; simp; omega)))
  have b2 : Below w.heap.size w w3 := (b1.alloc b1.size _).trans (hb3.mono (by have := b1.size; simp; omega))
  have := b2.size
  (repeat' (first | (with_reducible exact Below.refl _ _) | (with_reducible assumption) | (with_reducible refine below_drewN ?_ _) | (with_reducible refine Below.setCell ?_ ?_ _) | (with_reducible refine Below.alloc ?_ ?_ _) | (with_reducible refine Below.drew ?_) | go_size))
end Go.Proofs.Ytholdclfckkidaa
