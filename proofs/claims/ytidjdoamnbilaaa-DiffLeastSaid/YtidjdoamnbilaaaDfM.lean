/-
  The laws' own check 'moved', and the walk of DiffMetric.
-/
import Derived.Test.YtidjdoamnbilaaaDfD
namespace Go.Proofs.Ytidjdoamnbilaaa
open Go.RowKit

def cX : ByteArray := ⟨#[120]⟩
def cY : ByteArray := ⟨#[121]⟩
theorem txt_xy : Lin.Txt [cX, cY] := ⟨by decide, by intro s hs; simp only [List.mem_cons, List.not_mem_nil, or_false] at hs; rcases hs with rfl | rfl <;> rfl⟩
theorem txt_yx : Lin.Txt [cY, cX] := ⟨by decide, by intro s hs; simp only [List.mem_cons, List.not_mem_nil, or_false] at hs; rcases hs with rfl | rfl <;> rfl⟩
theorem ok_xy : okD [cX, cY] [cY, cX] := ⟨Lin.vC_txt txt_xy, Lin.vC_txt txt_yx⟩
theorem d_xy : dD [cX, cY] [cY, cX] = 2 := by
  have h : cX ≠ cY := by decide
  rw [dD, if_pos ok_xy, Dif.lcs_other h, Dif.lcs_same, Dif.lcs_nil, Dif.lcs_same, Dif.lcs_nil']
  rfl
theorem sts_pair (w : World) (g : Nat) (x y : ByteArray) (hg : g = w.heap.size) (hx : x.size ≤ 140737488351232) (hy : y.size ≤ 140737488351232) : Sts (w.alloc (.cells #[.string x, .string y] 9)) (some ⟨g, 0, none⟩) [x, y] := by
  subst hg
  refine ⟨?_, by simp, (fun h => by cases h), fun _ => ⟨w.heap.size, 0, rfl, by simp, fun i hi => ?_⟩⟩
  · intro s hs
    simp only [List.mem_cons, List.not_mem_nil, or_false] at hs
    rcases hs with rfl | rfl
    · exact hx
    · exact hy
  · rw [Nat.zero_add, World.cell?_alloc_mark]
    have : i = 0 ∨ i = 1 := by simp at hi; omega
    rcases this with rfl | rfl <;> rfl

set_option maxHeartbeats 2000000 in
theorem moved_any (w : World) : Calls Try.prog 27 #[] w (TPost w) := by
  go_enter Try.func27, Try.ntmps27
  go_wp2_with fail
  have s1 := sts_pair w w.heap.size cX cY rfl (by decide) (by decide)
  have s2 := sts_pair (w.alloc (.cells #[.string cX, .string cY] 9)) (w.heap.size + 1) cY cX (by simp) (by decide) (by decide)
  refine (distance_any _ _ [cX, cY] [cY, cX] _ _ _ _ _ rfl rfl (s1.mono (up_alloc (Below.refl _ _) _)) s2).mono ?_
  rintro e w1 ⟨rfl, u1⟩
  rw [d_xy, (tC_ok ok_xy).1, (tC_ok ok_xy).2]
  go_wp2_with fail
  go_ret
  refine ⟨rfl, ?_⟩
  exact up_alloc ((up_alloc (up_alloc (Below.refl w.heap.size w) _) _).trans (u1.mono (by simp; omega))) _

theorem d_tri {a b c : List ByteArray} (h1 : okD a b) (h2 : okD b c) : dD a c ≤ dD a b + dD b c ∧ dD b a = dD a b ∧ 0 ≤ dD a b ∧ dD a b ≤ 240 ∧ 0 ≤ dD b c ∧ dD b c ≤ 240 ∧ 0 ≤ dD a c ∧ dD a c ≤ 240 := by
  have l1 := len_ok h1.1
  have l2 := len_ok h1.2
  have l3 := len_ok h2.2
  have t := Dif.lcs_tri a b c
  have k1 := Dif.lcs_le a b
  have k2 := Dif.lcs_le b c
  have k3 := Dif.lcs_le a c
  rw [dD, dD, dD, dD, if_pos h1, if_pos h2, if_pos (show okD a c from ⟨h1.1, h2.2⟩), if_pos (show okD b a from ⟨h1.2, h1.1⟩), Dif.lcs_comm b a]
  omega
theorem d_zero {a b : List ByteArray} (h : okD a b) : dD a b = 0 ↔ a = b := by
  have k := Dif.lcs_le a b
  rw [dD, if_pos h]
  constructor
  · intro e; exact Dif.lcs_full (by omega) (by omega)
  · rintro rfl; rw [Dif.lcs_self]; omega

end Go.Proofs.Ytidjdoamnbilaaa
