/-
  The program's diff.validate, walked.
-/
import Derived.Test.YtolpbeemeignaaaLinD
import Derived.Test.YtolpbeemeignaaaDifM
namespace Go.Proofs.Ytolpbeemeignaaa
open Go.RowKit
set_option maxRecDepth 4000

set_option maxHeartbeats 2000000 in
theorem valid2_any (p q : Option Addr) (l m : List ByteArray) (n k cap cap' : Nat) (w : World) (hn : n = l.length) (hk : k = m.length) (hp : Sts w p l) (hq : Sts w q m) :
    Calls Try.prog 56 #[.slice p n cap, .slice q k cap'] w (BPost (.agg #[.int .i64 (tC l m), .int .i64 (tI l m)]) w) := by
  subst hn hk
  have HP := Lib.hid hp
  have HQ := Lib.hid hq
  clear hp hq
  go_enter Try.func56, Try.ntmps56
  go_wp2_with fail
  refine (validate_any _ l _ _ _ rfl (HP.out.mono (up_alloc (Below.refl _ _) _))).mono ?_
  rintro e w1 ⟨rfl, hb1⟩
  have FA := (Flt.new w 0 0 26).up hb1
  have HA := Lib.hid FA
  have u1 := up_call (up_alloc (Below.refl w.heap.size w) _) hb1
  by_cases h1 : Lin.vC l = 0
  · have e2 := Lin.vI_zero h1
    by_cases h2 : Lin.vC m = 0
    · have e3 := Lin.vI_zero h2
      have E : Hid (tC l m = 0 ∧ tI l m = 0) := Lib.hid (t_none h1 h2)
      rw [h1, e2]
      have HV := Lib.hid (And.intro h2 e3)
      clear h1 h2 e2 e3
      obtain ⟨a0, a1, a2, a3, a4⟩ := FA
      go_wp2_with fail
      refine (validate_any _ m _ _ _ rfl (HQ.out.mono (up_alloc u1 _))).mono ?_
      rintro e w2 ⟨rfl, hb2⟩
      rw [HV.out.1, HV.out.2]
      have FA2 := (HA.out.alloc (.cells #[.int .i64 0, .int .i64 0] 26 (0, 0))).up hb2
      have u2 := up_call (up_alloc u1 (.cells #[.int .i64 0, .int .i64 0] 26 (0, 0))) hb2
      clear a0 a1 a2 a3 a4
      have HA2 := Lib.hid FA2
      obtain ⟨a0, a1, a2, a3, a4⟩ := FA2
      obtain ⟨d0, d1, -, -, -⟩ := ((HA2.out.set2 0 0).alloc (.cells #[.int .i64 0, .int .i64 0] 26 (0, 0)))
      go_wp2_with fail
      refine bodyPost_ret (v := .agg #[.int .i64 0, .int .i64 0]) (by simp [results, Try.results56, go_sem, d0, d1]) rfl ⟨by rw [E.out.1, E.out.2], ?_⟩
      (repeat' (first | (with_reducible exact Below.refl _ _) | (with_reducible assumption) | (with_reducible refine below_drewN ?_ _) | (with_reducible refine Below.setCell ?_ ?_ _) | (with_reducible refine Below.alloc ?_ ?_ _) | (with_reducible refine Below.drew ?_) | go_size))
    · have E : Hid (tC l m = Lin.vC m ∧ tI l m = -2) := Lib.hid (t_second h1 h2)
      rw [h1, e2]
      clear h1 e2
      obtain ⟨a0, a1, a2, a3, a4⟩ := FA
      go_wp2_with fail
      refine (validate_any _ m _ _ _ rfl (HQ.out.mono (up_alloc u1 _))).mono ?_
      rintro e w2 ⟨rfl, hb2⟩
      have FA2 := (HA.out.alloc (.cells #[.int .i64 0, .int .i64 0] 26 (0, 0))).up hb2
      have u2 := up_call (up_alloc u1 (.cells #[.int .i64 0, .int .i64 0] 26 (0, 0))) hb2
      clear a0 a1 a2 a3 a4
      have HA2 := Lib.hid FA2
      obtain ⟨a0, a1, a2, a3, a4⟩ := FA2
      obtain ⟨d0, d1, -, -, -⟩ := ((HA2.out.set2 (Lin.vC m) (-2)).alloc (.cells #[.int .i64 (Lin.vC m), .int .i64 (Lin.vI m)] 26 (0, 0)))
      go_wp2_with fail
      refine bodyPost_ret (v := .agg #[.int .i64 (Lin.vC m), .int .i64 (-2)]) (by simp [results, Try.results56, go_sem, d0, d1]) rfl ⟨by rw [E.out.1, E.out.2], ?_⟩
      (repeat' (first | (with_reducible exact Below.refl _ _) | (with_reducible assumption) | (with_reducible refine below_drewN ?_ _) | (with_reducible refine Below.setCell ?_ ?_ _) | (with_reducible refine Below.alloc ?_ ?_ _) | (with_reducible refine Below.drew ?_) | go_size))
  · have E := Lib.hid (t_first (m := m) h1)
    obtain ⟨d0, d1, -, -, -⟩ := (FA.set2 (Lin.vC l) (Lin.vI l)).alloc (.cells #[.int .i64 (Lin.vC l), .int .i64 (Lin.vI l)] 26 (0, 0))
    obtain ⟨a0, a1, a2, a3, a4⟩ := FA
    go_wp2_with fail
    refine bodyPost_ret (v := .agg #[.int .i64 (Lin.vC l), .int .i64 (Lin.vI l)]) (by simp [results, Try.results56, go_sem, d0, d1]) rfl ⟨by rw [E.out.1, E.out.2], ?_⟩
    (repeat' (first | (with_reducible exact Below.refl _ _) | (with_reducible assumption) | (with_reducible refine below_drewN ?_ _) | (with_reducible refine Below.setCell ?_ ?_ _) | (with_reducible refine Below.alloc ?_ ?_ _) | (with_reducible refine Below.drew ?_) | go_size))
end Go.Proofs.Ytolpbeemeignaaa
