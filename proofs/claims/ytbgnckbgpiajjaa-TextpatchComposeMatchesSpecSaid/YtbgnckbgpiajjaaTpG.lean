/-
  The reference's Pair, walked.
-/
import Derived.Test.YtbgnckbgpiajjaaTpE
namespace Go.Proofs.Ytbgnckbgpiajjaa
open Go.RowKit
set_option maxRecDepth 4000

namespace Tp
/-- the fault of two patches -/
noncomputable def prC (hs ks : List H) : Int := if pC hs = 0 then pC ks else pC hs
noncomputable def prI (hs ks : List H) : Int := if pC hs = 0 then (if pC ks = 0 then 0 else -2) else pI hs
theorem prC_zero {hs ks : List H} : prC hs ks = 0 ↔ Vp hs ∧ Vp ks := by
  unfold prC
  by_cases h : pC hs = 0
  · rw [if_pos h, pC_zero]; exact ⟨fun k => ⟨pC_zero.1 h, k⟩, fun k => k.2⟩
  · rw [if_neg h]; exact ⟨fun k => (h k).elim, fun k => (h (pC_zero.2 k.1)).elim⟩
end Tp
set_option maxHeartbeats 2000000 in
theorem refPair_any (p q : Option Addr) (hs ks : List Tp.H) (n cap m cap' : Nat) (w : World) (hn : n = hs.length) (hm : m = ks.length) (hp : Ptc w p hs) (hq : Ptc w q ks) (hl : hs.length ≤ 2513169434845) (hl' : ks.length ≤ 2513169434845) :
    Calls Try.prog 73 #[.agg #[.slice p n cap], .agg #[.slice q m cap']] w (BPost (.agg #[.int .i64 (Tp.prC hs ks), .int .i64 (Tp.prI hs ks)]) w) := by
  subst hn hm
  have HP := Lib.hid hp
  have HQ := Lib.hid hq
  clear hp hq
  have hfd := field0
  have up0 : Below w.heap.size w (((w.alloc (.cells #[.slice p hs.length cap] 41 (0, 0))).alloc (.cells #[.slice q ks.length cap'] 41 (0, 0))).alloc (.cells #[.int .i64 0, .int .i64 0] 25 (0, 0))) := up_alloc (up_alloc (up_alloc (Below.refl _ _) _) _) _
  have O0 := Lib.hid (((One.new w (.slice p hs.length cap) 41 w.heap.size rfl).alloc (.cells #[.slice q ks.length cap'] 41 (0, 0))).alloc (.cells #[.int .i64 0, .int .i64 0] 25 (0, 0)))
  have R0 := Lib.hid ((One.new (w.alloc (.cells #[.slice p hs.length cap] 41 (0, 0))) (.slice q ks.length cap') 41 (w.heap.size + 1) (by simp)).alloc (.cells #[.int .i64 0, .int .i64 0] 25 (0, 0)))
  have F0 : Hid (Flt (((w.alloc (.cells #[.slice p hs.length cap] 41 (0, 0))).alloc (.cells #[.slice q ks.length cap'] 41 (0, 0))).alloc (.cells #[.int .i64 0, .int .i64 0] 25 (0, 0))) (w.heap.size + 1 + 1) 0 0) := by
    have := Flt.new ((w.alloc (.cells #[.slice p hs.length cap] 41 (0, 0))).alloc (.cells #[.slice q ks.length cap'] 41 (0, 0))) 0 0 25
    rw [World.size_alloc, World.size_alloc] at this
    exact this
  go_enter Try.func73, Try.ntmps73
  go_wp2_with fail
  refine (refPatchFault_any p hs _ cap _ rfl (HP.out.mono up0) hl).mono ?_
  rintro e w1 ⟨rfl, hb1⟩
  have u1 := up_call up0 hb1
  have R1 := Lib.hid (R0.out.up hb1)
  have F1 := Lib.hid (F0.out.up hb1)
  have hzw := u1.size
  have hf1 := F1.out.lt
  clear up0 hb1 O0 R0 F0
  by_cases h : Tp.pC hs = 0
  · have E1 : Hid (Tp.pC ks = 0 → Tp.prC hs ks = 0 ∧ Tp.prI hs ks = Tp.pI hs) := Lib.hid fun h' => ⟨(if_pos h).trans h', (if_pos h).trans ((if_pos h').trans (Tp.pI_zero h).symm)⟩
    have E2 : Hid (Tp.pC ks ≠ 0 → Tp.prC hs ks = Tp.pC ks ∧ Tp.prI hs ks = -2) := Lib.hid fun h' => ⟨if_pos h, (if_pos h).trans (if_neg h')⟩
    rw [h]
    clear h
    have X1 := Lib.hid (Flt.new w1 0 (Tp.pI hs) 25)
    have F2 := Lib.hid (F1.out.alloc (.cells #[.int .i64 0, .int .i64 (Tp.pI hs)] 25 (0, 0)))
    have R2 := Lib.hid (R1.out.alloc (.cells #[.int .i64 0, .int .i64 (Tp.pI hs)] 25 (0, 0)))
    have u2 := up_alloc u1 (.cells #[.int .i64 0, .int .i64 (Tp.pI hs)] 25 (0, 0))
    have hz2 : (w1.alloc (.cells #[.int .i64 0, .int .i64 (Tp.pI hs)] 25 (0, 0))).heap.size = w1.heap.size + 1 := by simp
    clear R1 F1
    have qc := R2.out.c
    obtain ⟨x0, x1, x2, x3, x4⟩ := X1.out
    go_wp2_with fail
    refine (refPatchFault_any q ks _ cap' _ rfl (HQ.out.mono u2) hl').mono ?_
    rintro e w3 ⟨rfl, hb3⟩
    have u3 := up_call u2 hb3
    have F3 := Lib.hid (F2.out.up hb3)
    have R3 := Lib.hid (R2.out.up hb3)
    have X3 := Lib.hid (X1.out.up hb3)
    clear hb3 x0 x1 x2 x3 x4 qc
    by_cases h' : Tp.pC ks = 0
    · have g2 : (Tp.pC ks != 0) = false := by simpa using h'
      have E := Lib.hid (E1.out h')
      clear h' E1 E2
      obtain ⟨x0, x1, x2, x3, x4⟩ := X3.out
      obtain ⟨a0, a1, a2, a3, a4⟩ := F3.out
      obtain ⟨d0, d1, -, -, -⟩ := F3.out.set2 0 (Tp.pI hs)
      go_wp2_with fail
      refine bodyPost_ret (v := .agg #[.int .i64 0, .int .i64 (Tp.pI hs)]) (by simp [results, Try.results73, go_sem, d0, d1]) rfl ⟨by rw [E.out.1, E.out.2], ?_⟩
      (repeat' (first | (with_reducible exact Below.refl _ _) | (with_reducible assumption) | (with_reducible refine below_drewN ?_ _) | (with_reducible refine Below.setCell ?_ ?_ _) | (with_reducible refine Below.alloc ?_ ?_ _) | (with_reducible refine Below.drew ?_) | go_size))
    · have g2 : (Tp.pC ks != 0) = true := by simpa using h'
      have E := Lib.hid (E2.out h')
      clear h' E1 E2
      have qc := R3.out.c
      go_wp2_with fail
      refine (refPatchFault_any q ks _ cap' _ rfl (HQ.out.mono u3) hl').mono ?_
      rintro e w4 ⟨rfl, hb4⟩
      have u4 := up_call u3 hb4
      have F4 := Lib.hid (F3.out.up hb4)
      have X4 := Lib.hid (X3.out.up hb4)
      clear hb4 qc
      go_wp2_with fail
      refine (at_any _ _ _).mono ?_
      rintro e w5 ⟨rfl, hb5⟩
      have u5 := up_call u4 hb5
      have F5 := Lib.hid (F4.out.up hb5)
      have X5 := Lib.hid (X4.out.up hb5)
      clear hb5
      obtain ⟨x0, x1, x2, x3, x4⟩ := X5.out
      obtain ⟨a0, a1, a2, a3, a4⟩ := F5.out
      obtain ⟨y0, y1, y2, y3, y4⟩ := X5.out.set2 (Tp.pC ks) (-2)
      have nb : ∀ i j, (⟨w1.heap.size, i, none⟩ : Addr) ≠ ⟨w.heap.size + 1 + 1, j, none⟩ := fun i j e => by have := congrArg Addr.block e; dsimp only at this; omega
      have k0 : ((w5.setCell ⟨w1.heap.size, 0, none⟩ (.int .i64 (Tp.pC ks))).setCell ⟨w1.heap.size, 1, none⟩ (.int .i64 (-2))).cell? ⟨w.heap.size + 1 + 1, 0, none⟩ = some (.int .i64 0) := by
        rw [World.cell?_setCell_other (h := nb _ _), World.cell?_setCell_other (h := nb _ _), a0]
      have k1 : ((w5.setCell ⟨w1.heap.size, 0, none⟩ (.int .i64 (Tp.pC ks))).setCell ⟨w1.heap.size, 1, none⟩ (.int .i64 (-2))).cell? ⟨w.heap.size + 1 + 1, 1, none⟩ = some (.int .i64 0) := by
        rw [World.cell?_setCell_other (h := nb _ _), World.cell?_setCell_other (h := nb _ _), a1]
      have n01 : (⟨w.heap.size + 1 + 1, 1, none⟩ : Addr) ≠ ⟨w.heap.size + 1 + 1, 0, none⟩ := by simp
      have d0 : ((((w5.setCell ⟨w1.heap.size, 0, none⟩ (.int .i64 (Tp.pC ks))).setCell ⟨w1.heap.size, 1, none⟩ (.int .i64 (-2))).setCell ⟨w.heap.size + 1 + 1, 0, none⟩ (.int .i64 (Tp.pC ks))).setCell ⟨w.heap.size + 1 + 1, 1, none⟩ (.int .i64 (-2))).cell? ⟨w.heap.size + 1 + 1, 0, none⟩ = some (.int .i64 (Tp.pC ks)) := by
        rw [World.cell?_setCell_other (h := n01)]
        exact World.cell?_setCell_same _ _ _ k0
      have d1 : ((((w5.setCell ⟨w1.heap.size, 0, none⟩ (.int .i64 (Tp.pC ks))).setCell ⟨w1.heap.size, 1, none⟩ (.int .i64 (-2))).setCell ⟨w.heap.size + 1 + 1, 0, none⟩ (.int .i64 (Tp.pC ks))).setCell ⟨w.heap.size + 1 + 1, 1, none⟩ (.int .i64 (-2))).cell? ⟨w.heap.size + 1 + 1, 1, none⟩ = some (.int .i64 (-2)) :=
        World.cell?_setCell_same _ _ _ (by rw [World.cell?_setCell_other (h := n01.symm)]; exact k1)
      clear k0 k1 nb n01
      go_wp2_with fail
      refine bodyPost_ret (v := .agg #[.int .i64 (Tp.pC ks), .int .i64 (-2)]) (by simp [results, Try.results73, go_sem, d0, d1]) rfl ⟨by rw [E.out.1, E.out.2], ?_⟩
      (repeat' (first | (with_reducible exact Below.refl _ _) | (with_reducible assumption) | (with_reducible refine below_drewN ?_ _) | (with_reducible refine Below.setCell ?_ ?_ _) | (with_reducible refine Below.alloc ?_ ?_ _) | (with_reducible refine Below.drew ?_) | go_size))
  · have g1 : (Tp.pC hs == 0) = false := by simpa using h
    have E : Hid (Tp.prC hs ks = Tp.pC hs ∧ Tp.prI hs ks = Tp.pI hs) := Lib.hid ⟨if_neg h, if_neg h⟩
    have X1 := Lib.hid (Flt.new w1 (Tp.pC hs) (Tp.pI hs) 25)
    have F2 := Lib.hid (F1.out.alloc (.cells #[.int .i64 (Tp.pC hs), .int .i64 (Tp.pI hs)] 25 (0, 0)))
    have R2 := Lib.hid (R1.out.alloc (.cells #[.int .i64 (Tp.pC hs), .int .i64 (Tp.pI hs)] 25 (0, 0)))
    have u2 := up_alloc u1 (.cells #[.int .i64 (Tp.pC hs), .int .i64 (Tp.pI hs)] 25 (0, 0))
    have hz2 : (w1.alloc (.cells #[.int .i64 (Tp.pC hs), .int .i64 (Tp.pI hs)] 25 (0, 0))).heap.size = w1.heap.size + 1 := by simp
    clear h
    obtain ⟨x0, x1, x2, x3, x4⟩ := X1.out
    obtain ⟨a0, a1, a2, a3, a4⟩ := F1.out
    obtain ⟨d0, d1, -, -, -⟩ := (F1.out.set2 (Tp.pC hs) (Tp.pI hs)).alloc (.cells #[.int .i64 (Tp.pC hs), .int .i64 (Tp.pI hs)] 25 (0, 0))
    go_wp2_with fail
    refine bodyPost_ret (v := .agg #[.int .i64 (Tp.pC hs), .int .i64 (Tp.pI hs)]) (by simp [results, Try.results73, go_sem, d0, d1]) rfl ⟨by rw [E.out.1, E.out.2], ?_⟩
    (repeat' (first | (with_reducible exact Below.refl _ _) | (with_reducible assumption) | (with_reducible refine below_drewN ?_ _) | (with_reducible refine Below.setCell ?_ ?_ _) | (with_reducible refine Below.alloc ?_ ?_ _) | (with_reducible refine Below.drew ?_) | go_size))
end Go.Proofs.Ytbgnckbgpiajjaa
