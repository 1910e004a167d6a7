/-
  The laws' own check 'pair', and the walk of LinesRestored.
-/
import Derived.Test.YtnjhnejebemflaaLinH
namespace Go.Proofs.Ytnjhnejebemflaa
open Go.RowKit

def cA : ByteArray := ⟨#[97]⟩
def cB : ByteArray := ⟨#[98]⟩
def ab : List ByteArray := [cA, cB]
theorem sl_ab : Lin.sl ⟨#[97, 10, 98]⟩ = ab := by rfl
theorem txt_ab : Lin.Txt ab := ⟨by decide, by intro s hs; simp only [ab, List.mem_cons, List.not_mem_nil, or_false] at hs; rcases hs with rfl | rfl <;> rfl⟩
theorem jl_ab : Lin.jl ab = ⟨#[97, 10, 98, 10]⟩ := by rfl
theorem split_ab (w : World) : Calls Try.prog 9 #[.string ⟨#[97, 10, 98]⟩] w (SPost ab 0 0 w) := by
  have h : Lin.sC ⟨#[97, 10, 98]⟩ = 0 := Lin.sC_ok (by decide) (by rw [sl_ab]; exact txt_ab)
  have h1 : Lin.sL ⟨#[97, 10, 98]⟩ = ab := by rw [Lin.sL, if_pos h, sl_ab]
  have h2 : Lin.sI ⟨#[97, 10, 98]⟩ = 0 := by rw [Lin.sI, if_neg (by decide), sl_ab]; exact Lin.vI_txt txt_ab
  have := split_any ⟨#[97, 10, 98]⟩ w (by decide)
  rw [h, h1, h2] at this; exact this
theorem join_ab (p : Option Addr) (cap : Nat) (w : World) (hp : Sts w p ab) : Calls Try.prog 11 #[.slice p 2 cap] w (BPost (.tuple #[.string ⟨#[97, 10, 98, 10]⟩, .agg #[.int .i64 0, .int .i64 0]]) w) := by
  have hs : ¬ 4096 < (Lin.jl ab).size := by rw [jl_ab]; decide
  obtain ⟨h1, h2, h3⟩ := j_ok (Lin.vC_txt txt_ab) hs
  have := join_any p ab 2 cap w rfl hp
  rw [h1, h2, h3, jl_ab] at this; exact this
theorem sts_two (w : World) (g : Nat) (x y : ByteArray) (hg : g = w.heap.size) (hx : x.size ≤ 140737488351232) (hy : y.size ≤ 140737488351232) : Sts (w.alloc (.cells #[.string x, .string y] 9)) (some ⟨g, 0, none⟩) [x, y] := by
  subst hg
  refine ⟨?_, by simp, (fun h => by cases h), fun _ => ⟨w.heap.size, 0, rfl, by simp, fun i hi => ?_⟩⟩
  · intro s hs
    simp only [List.mem_cons, List.not_mem_nil, or_false] at hs
    rcases hs with rfl | rfl
    · exact hx
    · exact hy
  · rw [Nat.zero_add, World.cell?_alloc_mark]
    have : i = 0 ∨ i = 1 := by simp at hi; omega
    rcases this with rfl | rfl <;> rfl

set_option maxHeartbeats 2000000 in
theorem pair_any (w : World) : Calls Try.prog 16 #[] w (TPost w) := by
  go_enter Try.func16, Try.ntmps16
  go_wp2_with fail
  refine (split_ab _).mono ?_
  rintro e w1 ⟨p, cap, rfl, hp, hcap, u1⟩
  have HP := Lib.hid hp
  have F1 := Lib.hid (Flt.new w1 0 0 24)
  clear hp
  go_wp2_with fail
  refine (join_ab _ _ _ (sts_two _ _ _ _ (by simp) (by decide) (by decide))).mono ?_
  rintro e w2 ⟨rfl, hb2⟩
  have e2 : Below (w1.heap.size + 1) (w1.alloc (.cells #[.int .i64 0, .int .i64 0] 24 (0, 0))) w2 := ((Below.refl _ _).alloc (by simp) _).trans (hb2.mono (by simp))
  have F1' := F1.out.mono e2 (by omega)
  have HP2 := Lib.hid (HP.out.mono ((up_alloc (Below.refl _ _) _).trans (e2.mono (by omega))))
  have u2 := (up_alloc u1 _).trans (e2.mono (by have := u1.size; omega))
  have F2 := Lib.hid (Flt.new w2 0 0 24)
  have HF1 := Lib.hid F1'
  clear e2 hb2 F1
  obtain ⟨a0, a1, a2, a3, a4⟩ := F1'
  go_wp2_with fail
  refine (equal_any p _ ab ab _ _ _ _ _ rfl rfl (HP2.out.mono (up_alloc (up_alloc (Below.refl _ _) _) _)) (sts_two _ _ cA cB (by simp) (by decide) (by decide))).mono ?_
  rintro e w3 ⟨rfl, n3, rfl⟩
  rw [eqS_true rfl]
  go_wp2_with fail
  go_ret
  refine ⟨rfl, ?_⟩
  have := u2.size
  (repeat' (first | (with_reducible exact Below.refl _ _) | (with_reducible assumption) | (with_reducible refine below_drewN ?_ _) | (with_reducible refine Below.setCell ?_ ?_ _) | (with_reducible refine Below.alloc ?_ ?_ _) | (with_reducible refine Below.drew ?_) | go_size))

set_option maxHeartbeats 2000000 in
theorem restored_walk (p : Option Addr) (l : List ByteArray) (cap : Nat) (w : World) (hp : Sts w p l) (_ : p = none → cap = 0) (_ : l.length ≤ 8796093021952) :
    Calls Try.prog 5 #[.slice p l.length cap] w (TPost w) := by
  have HP := Lib.hid hp
  clear hp
  go_enter Try.func5, Try.ntmps5
  go_wp2_with fail
  refine (join_any _ l _ _ _ rfl HP.out).mono ?_
  rintro e w1 ⟨rfl, u1⟩
  by_cases h1 : Lin.jC l = 0
  · obtain ⟨ht, hs⟩ := Lin.jC_zero h1
    have hS : Lin.jS l = Lin.jl l := by rw [Lin.jS, if_pos h1]
    have hC : Lin.sC (Lin.jl l) = 0 := Lin.sC_ok hs (by rw [Lin.sl_jl ht]; exact ht)
    have hL : Lin.sL (Lin.jl l) = l := by rw [Lin.sL, if_pos hC, Lin.sl_jl ht]
    have hI : Lin.sI (Lin.jl l) = 0 := by rw [Lin.sI, if_neg (by omega), Lin.sl_jl ht]; exact Lin.vI_txt ht
    obtain ⟨s, hsd⟩ : ∃ s, s = Lin.jl l := ⟨_, rfl⟩
    rw [← hsd] at hS hs hC hL hI
    have hspl := fun w => split_any s w (by omega)
    rw [hC, hL, hI] at hspl
    have SP := Lib.hid hspl
    rw [hS, h1]
    clear h1 hS hC hL hI hspl hsd ht
    go_wp2_with fail
    refine (SP.out _).mono ?_
    rintro e w2 ⟨q, qap, rfl, hq, hqc, hb2⟩
    have HQ := Lib.hid hq
    have u2 := up_call (up_alloc u1 (.cells #[.int .i64 0, .int .i64 (Lin.jI l)] 24 (0, 0))) hb2
    clear hq hb2
    go_wp2_with fail
    refine (equal_any q p l l _ _ _ _ _ rfl rfl (HQ.out.mono (up_alloc (Below.refl _ _) _)) (HP.out.mono (up_alloc u2 _))).mono ?_
    rintro e w3 ⟨rfl, n3, rfl⟩
    rw [eqS_true rfl]
    go_wp2_with fail
    refine (pair_any _).mono ?_
    rintro e w4 ⟨rfl, hb4⟩
    go_wp2_with fail
    go_ret
    refine ⟨rfl, ?_⟩
    exact up_call (below_drewN (up_alloc u2 _) _) hb4
  · have g1 : (Lin.jC l != 0) = true := by simpa using h1
    go_wp2_with fail
    refine (pair_any _).mono ?_
    rintro e w4 ⟨rfl, hb4⟩
    go_wp2_with fail
    go_ret
    refine ⟨rfl, ?_⟩
    exact up_call (up_alloc u1 _) hb4
end Go.Proofs.Ytnjhnejebemflaa
