/-
  The laws' own check 'moved', and the walk of DiffMetric.
-/
import Derived.Test.YtpipcgmfjkacgaaDfD
namespace Go.Proofs.Ytpipcgmfjkacgaa
open Go.RowKit

def cX : ByteArray := ⟨#[120]⟩
def cY : ByteArray := ⟨#[121]⟩
theorem txt_xy : Lin.Txt [cX, cY] := ⟨by decide, by intro s hs; simp only [List.mem_cons, List.not_mem_nil, or_false] at hs; rcases hs with rfl | rfl <;> rfl⟩
theorem txt_yx : Lin.Txt [cY, cX] := ⟨by decide, by intro s hs; simp only [List.mem_cons, List.not_mem_nil, or_false] at hs; rcases hs with rfl | rfl <;> rfl⟩
theorem ok_xy : okD [cX, cY] [cY, cX] := ⟨Lin.vC_txt txt_xy, Lin.vC_txt txt_yx⟩
theorem d_xy : dD [cX, cY] [cY, cX] = 2 := by
  have h : cX ≠ cY := by decide
  rw [dD, if_pos ok_xy, Dif.lcs_other h, Dif.lcs_same, Dif.lcs_nil, Dif.lcs_same, Dif.lcs_nil']
  rfl
theorem sts_pair (w : World) (g : Nat) (x y : ByteArray) (hg : g = w.heap.size) (hx : x.size ≤ 140737488351232) (hy : y.size ≤ 140737488351232) : Sts (w.alloc (.cells #[.string x, .string y] 9)) (some ⟨g, 0, none⟩) [x, y] := by
  subst hg
  refine ⟨?_, by simp, (fun h => by cases h), fun _ => ⟨w.heap.size, 0, rfl, by simp, fun i hi => ?_⟩⟩
  · intro s hs
    simp only [List.mem_cons, List.not_mem_nil, or_false] at hs
    rcases hs with rfl | rfl
    · exact hx
    · exact hy
  · rw [Nat.zero_add, World.cell?_alloc_mark]
    have : i = 0 ∨ i = 1 := by simp at hi; omega
    rcases this with rfl | rfl <;> rfl

set_option maxHeartbeats 2000000 in
theorem moved_any (w : World) : Calls Try.prog 11 #[] w (TPost w) := by
  go_enter Try.func11, Try.ntmps11
  go_wp2_with fail
  have s1 := sts_pair w w.heap.size cX cY rfl (by decide) (by decide)
  have s2 := sts_pair (w.alloc (.cells #[.string cX, .string cY] 9)) (w.heap.size + 1) cY cX (by simp) (by decide) (by decide)
  refine (distance_any _ _ [cX, cY] [cY, cX] _ _ _ _ _ rfl rfl (s1.mono (up_alloc (Below.refl _ _) _)) s2).mono ?_
  rintro e w1 ⟨rfl, u1⟩
  rw [d_xy, (tC_ok ok_xy).1, (tC_ok ok_xy).2]
  go_wp2_with fail
  go_ret
  refine ⟨rfl, ?_⟩
  exact up_alloc ((up_alloc (up_alloc (Below.refl w.heap.size w) _) _).trans (u1.mono (by simp; omega))) _

theorem d_tri {a b c : List ByteArray} (h1 : okD a b) (h2 : okD b c) : dD a c ≤ dD a b + dD b c ∧ dD b a = dD a b ∧ 0 ≤ dD a b ∧ dD a b ≤ 240 ∧ 0 ≤ dD b c ∧ dD b c ≤ 240 ∧ 0 ≤ dD a c ∧ dD a c ≤ 240 := by
  have l1 := len_ok h1.1
  have l2 := len_ok h1.2
  have l3 := len_ok h2.2
  have t := Dif.lcs_tri a b c
  have k1 := Dif.lcs_le a b
  have k2 := Dif.lcs_le b c
  have k3 := Dif.lcs_le a c
  rw [dD, dD, dD, dD, if_pos h1, if_pos h2, if_pos (show okD a c from ⟨h1.1, h2.2⟩), if_pos (show okD b a from ⟨h1.2, h1.1⟩), Dif.lcs_comm b a]
  omega
theorem d_zero {a b : List ByteArray} (h : okD a b) : dD a b = 0 ↔ a = b := by
  have k := Dif.lcs_le a b
  rw [dD, if_pos h]
  constructor
  · intro e; exact Dif.lcs_full (by omega) (by omega)
  · rintro rfl; rw [Dif.lcs_self]; omega

set_option maxHeartbeats 4000000 in
theorem metric_walk (p : Option Addr) (a : List ByteArray) (cap : Nat) (q : Option Addr) (b : List ByteArray) (cap' : Nat) (r : Option Addr) (c : List ByteArray) (cap'' : Nat) (w : World) (hp : Sts w p a) (_ : p = none → cap = 0) (_ : a.length ≤ 8796093021952)
    (hq : Sts w q b) (_ : q = none → cap' = 0) (_ : b.length ≤ 8796093021952) (hr : Sts w r c) (_ : r = none → cap'' = 0) (_ : c.length ≤ 8796093021952) :
    Calls Try.prog 4 #[.slice p a.length cap, .slice q b.length cap', .slice r c.length cap''] w (TPost w) := by
  have HP := Lib.hid hp
  have HQ := Lib.hid hq
  have HR := Lib.hid hr
  clear hp hq hr
  go_enter Try.func4, Try.ntmps4
  go_wp2_with fail
  refine (distance_any _ _ a b _ _ _ _ _ rfl rfl HP.out HQ.out).mono ?_
  rintro e w1 ⟨rfl, u1⟩
  have F1 := Lib.hid (Flt.new w1 (tC a b) (tI a b) 24)
  go_wp2_with fail
  have v1 := up_alloc u1 (.cells #[.int .i64 (tC a b), .int .i64 (tI a b)] 24 (0, 0))
  refine (distance_any _ _ b c _ _ _ _ _ rfl rfl (HQ.out.mono v1) (HR.out.mono v1)).mono ?_
  rintro e w2 ⟨rfl, hb2⟩
  have u2 := up_call v1 hb2
  clear v1 u1
  have F1 := Lib.hid ((F1.out.up hb2).alloc (.cells #[.int .i64 (tC b c), .int .i64 (tI b c)] 24 (0, 0)))
  have F2 := Lib.hid (Flt.new w2 (tC b c) (tI b c) 24)
  clear hb2
  go_wp2_with fail
  have v2 := up_alloc u2 (.cells #[.int .i64 (tC b c), .int .i64 (tI b c)] 24 (0, 0))
  refine (distance_any _ _ a c _ _ _ _ _ rfl rfl (HP.out.mono v2) (HR.out.mono v2)).mono ?_
  rintro e w3 ⟨rfl, hb3⟩
  have u3 := up_call v2 hb3
  clear v2 u2
  have F1 := Lib.hid ((F1.out.up hb3).alloc (.cells #[.int .i64 (tC a c), .int .i64 (tI a c)] 24 (0, 0)))
  have F2 := Lib.hid ((F2.out.up hb3).alloc (.cells #[.int .i64 (tC a c), .int .i64 (tI a c)] 24 (0, 0)))
  have F3 := Lib.hid (Flt.new w3 (tC a c) (tI a c) 24)
  clear hb3
  go_wp2_with fail
  have v3 := up_alloc u3 (.cells #[.int .i64 (tC a c), .int .i64 (tI a c)] 24 (0, 0))
  refine (distance_any _ _ b a _ _ _ _ _ rfl rfl (HQ.out.mono v3) (HP.out.mono v3)).mono ?_
  rintro e w4 ⟨rfl, hb4⟩
  have u4 := up_call v3 hb4
  clear v3 u3
  have F1 := Lib.hid (F1.out.up hb4)
  have F2 := Lib.hid (F2.out.up hb4)
  have F3 := Lib.hid (F3.out.up hb4)
  have F4 := Lib.hid (Flt.new w4 (tC b a) (tI b a) 24)
  clear hb4
  have uA := up_alloc u4 (.cells #[.int .i64 (tC b a), .int .i64 (tI b a)] 24 (0, 0))
  by_cases h1 : okD a b
  · have g1 := (tC_ok h1).1
    by_cases h2 : okD b c
    · have g2 := (tC_ok h2).1
      have g3 := (tC_ok (show okD a c from ⟨h1.1, h2.2⟩)).1
      have g4 := (tC_ok (show okD b a from ⟨h1.2, h1.1⟩)).1
      obtain ⟨t1, t2, t3, t4, t5, t6, t7, t8⟩ := d_tri h1 h2
      have hz := d_zero h1
      rw [t2]
      generalize dD a b = x at t1 t3 t4 hz ⊢
      generalize dD b c = y at t1 t5 t6 ⊢
      generalize dD a c = z at t1 t7 t8 ⊢
      rw [g1, g2, g3, g4]
      rw [g1] at F1
      rw [g2] at F2
      rw [g3] at F3
      rw [g4] at uA
      obtain ⟨a0, a1, -, -, a4⟩ := F1.out
      obtain ⟨b0, b1, -, -, b4⟩ := F2.out
      obtain ⟨c0, c1, -, -, c4⟩ := F3.out
      have gl : decide (z ≤ x + y) = true := by rw [decide_eq_true_iff]; exact t1
      clear h1 h2 g1 g2 g3 g4 t2
      by_cases he : a = b
      · have hx := hz.2 he
        have gE := eqS_true he
        clear hz he
        subst hx
        go_wp2_with fail
        refine (equal_any _ _ a b _ _ _ _ _ rfl rfl (HP.out.mono uA) (HQ.out.mono uA)).mono ?_
        rintro e w5 ⟨rfl, n5, rfl⟩
        rw [gE]
        go_wp2_with fail
        refine (moved_any _).mono ?_
        rintro e w6 ⟨rfl, hb6⟩
        go_wp2_with fail
        go_ret
        exact ⟨rfl, up_call (below_drewN uA _) hb6⟩
      · have hx : (x == 0) = false := by rw [beq_eq_false_iff_ne]; exact fun h => he (hz.1 h)
        have gE := eqS_false he
        clear hz he
        go_wp2_with fail
        refine (equal_any _ _ a b _ _ _ _ _ rfl rfl (HP.out.mono uA) (HQ.out.mono uA)).mono ?_
        rintro e w5 ⟨rfl, n5, rfl⟩
        rw [gE]
        go_wp2_with fail
        refine (moved_any _).mono ?_
        rintro e w6 ⟨rfl, hb6⟩
        go_wp2_with fail
        go_ret
        exact ⟨rfl, up_call (below_drewN uA _) hb6⟩
    · have g1' : (tC a b != 0) = false := by rw [g1]; rfl
      have g2' : (tC b c != 0) = true := by simpa using tC_not h2
      obtain ⟨a0, a1, -, -, a4⟩ := F1.out
      obtain ⟨b0, b1, -, -, b4⟩ := F2.out
      clear h1 h2 g1
      go_wp2_with fail
      refine (moved_any _).mono ?_
      rintro e w6 ⟨rfl, hb6⟩
      go_wp2_with fail
      go_ret
      exact ⟨rfl, up_call uA hb6⟩
  · have g1' : (tC a b != 0) = true := by simpa using tC_not h1
    obtain ⟨a0, a1, -, -, a4⟩ := F1.out
    clear h1
    go_wp2_with fail
    refine (moved_any _).mono ?_
    rintro e w6 ⟨rfl, hb6⟩
    go_wp2_with fail
    go_ret
    exact ⟨rfl, up_call uA hb6⟩
end Go.Proofs.Ytpipcgmfjkacgaa
