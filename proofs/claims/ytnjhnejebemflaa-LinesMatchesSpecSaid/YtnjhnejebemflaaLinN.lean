/-
  The walk of LinesMatchesSpec.
-/
import Derived.Test.YtnjhnejebemflaaLinJ
namespace Go.Proofs.Ytnjhnejebemflaa
open Go.RowKit

set_option maxHeartbeats 4000000 in
theorem linesMatches_walk (p : Option Addr) (l : List ByteArray) (cap : Nat) (s : ByteArray) (w : World) (hp : Sts w p l) (_ : p = none → cap = 0) (_ : l.length ≤ 8796093021952) (hs : s.size ≤ 140737488351232) :
    Calls Try.prog 3 #[.slice p l.length cap, .string s] w (TPost w) := by
  have HP := Lib.hid hp
  clear hp
  go_enter Try.func3, Try.ntmps3
  go_wp2_with fail
  refine (split_any s _ hs).mono ?_
  rintro e w1 ⟨p1, cap1, rfl, hp1, -, u1⟩
  have P1 := Lib.hid (hp1.mono (up_alloc (Below.refl _ _) (.cells #[.int .i64 (Lin.sC s), .int .i64 (Lin.sI s)] 24 (0, 0))))
  have F1 := Lib.hid (Flt.new w1 (Lin.sC s) (Lin.sI s) 24)
  clear hp1
  go_wp2_with fail
  refine (refSplit_any s _ hs).mono ?_
  rintro e w2 ⟨p2, cap2, rfl, hp2, -, hb2⟩
  have u2 := up_call (up_alloc u1 (.cells #[.int .i64 (Lin.sC s), .int .i64 (Lin.sI s)] 24 (0, 0))) hb2
  have P1b := Lib.hid ((P1.out.mono hb2).mono (up_alloc (Below.refl _ _) (.cells #[.int .i64 (Lin.sC s), .int .i64 (Lin.sI s)] 24 (0, 0))))
  have P2 := Lib.hid (hp2.mono (up_alloc (Below.refl _ _) (.cells #[.int .i64 (Lin.sC s), .int .i64 (Lin.sI s)] 24 (0, 0))))
  have F1b := Lib.hid ((F1.out.up hb2).alloc (.cells #[.int .i64 (Lin.sC s), .int .i64 (Lin.sI s)] 24 (0, 0)))
  have F2 := Lib.hid (Flt.new w2 (Lin.sC s) (Lin.sI s) 24)
  clear hp2 hb2 P1 F1 u1
  go_wp2_with fail
  refine (join_any _ l _ _ _ rfl (HP.out.mono (up_alloc u2 _))).mono ?_
  rintro e w3 ⟨rfl, hb3⟩
  have u3 := up_call (up_alloc u2 (.cells #[.int .i64 (Lin.sC s), .int .i64 (Lin.sI s)] 24 (0, 0))) hb3
  have P1c := Lib.hid ((P1b.out.mono hb3).mono (up_alloc (Below.refl _ _) (.cells #[.int .i64 (Lin.jC l), .int .i64 (Lin.jI l)] 24 (0, 0))))
  have P2c := Lib.hid ((P2.out.mono hb3).mono (up_alloc (Below.refl _ _) (.cells #[.int .i64 (Lin.jC l), .int .i64 (Lin.jI l)] 24 (0, 0))))
  have F1c := Lib.hid ((F1b.out.up hb3).alloc (.cells #[.int .i64 (Lin.jC l), .int .i64 (Lin.jI l)] 24 (0, 0)))
  have F2c := Lib.hid ((F2.out.up hb3).alloc (.cells #[.int .i64 (Lin.jC l), .int .i64 (Lin.jI l)] 24 (0, 0)))
  have F3 := Lib.hid (Flt.new w3 (Lin.jC l) (Lin.jI l) 24)
  clear hb3 P1b P2 F1b F2 u2
  go_wp2_with fail
  refine (refJoin_any _ l _ _ _ rfl (HP.out.mono (up_alloc u3 _))).mono ?_
  rintro e w4 ⟨rfl, hb4⟩
  have u4 := up_call (up_alloc u3 (.cells #[.int .i64 (Lin.jC l), .int .i64 (Lin.jI l)] 24 (0, 0))) hb4
  have P1d := Lib.hid ((P1c.out.mono hb4).mono (up_alloc (Below.refl _ _) (.cells #[.int .i64 (Lin.jC l), .int .i64 (Lin.jI l)] 24 (0, 0))))
  have P2d := Lib.hid ((P2c.out.mono hb4).mono (up_alloc (Below.refl _ _) (.cells #[.int .i64 (Lin.jC l), .int .i64 (Lin.jI l)] 24 (0, 0))))
  have F1d := Lib.hid ((F1c.out.up hb4).alloc (.cells #[.int .i64 (Lin.jC l), .int .i64 (Lin.jI l)] 24 (0, 0)))
  have F2d := Lib.hid ((F2c.out.up hb4).alloc (.cells #[.int .i64 (Lin.jC l), .int .i64 (Lin.jI l)] 24 (0, 0)))
  have F3d := Lib.hid ((F3.out.up hb4).alloc (.cells #[.int .i64 (Lin.jC l), .int .i64 (Lin.jI l)] 24 (0, 0)))
  have F4 := Lib.hid (Flt.new w4 (Lin.jC l) (Lin.jI l) 24)
  have uA := up_alloc u4 (.cells #[.int .i64 (Lin.jC l), .int .i64 (Lin.jI l)] 24 (0, 0))
  clear hb4 P1c P2c F1c F2c F3 u3 u4
  go_wp2_with fail
  refine (validate_any _ l _ _ _ rfl (HP.out.mono uA)).mono ?_
  rintro e w5 ⟨rfl, hb5⟩
  have u5 := up_call uA hb5
  go_wp2_with fail
  refine (linesFault_any _ l _ _ _ rfl (HP.out.mono u5)).mono ?_
  rintro e w6 ⟨rfl, hb6⟩
  have hb := hb5.trans (hb6.mono hb5.size)
  have u6 := up_call u5 hb6
  have Q1 := Lib.hid (P1d.out.mono hb)
  have Q2 := Lib.hid (P2d.out.mono hb)
  obtain ⟨a0, a1, -, -, a4⟩ := F1d.out.up hb
  obtain ⟨b0, b1, -, -, b4⟩ := F2d.out.up hb
  obtain ⟨c0, c1, -, -, c4⟩ := F3d.out.up hb
  obtain ⟨d0, d1, -, -, d4⟩ := F4.out.up hb
  clear hb hb5 hb6 u5 uA P1d P2d F1d F2d F3d F4
  go_wp2_with fail
  refine (equal_any p1 p2 (Lin.sL s) (Lin.sL s) _ _ _ _ _ rfl rfl Q1.out Q2.out).mono ?_
  rintro e w7 ⟨rfl, n7, rfl⟩
  rw [eqS_true rfl]
  go_wp2_with fail
  refine (pair_any _).mono ?_
  rintro e w8 ⟨rfl, hb8⟩
  go_wp2_with fail
  go_ret
  refine ⟨rfl, ?_⟩
  exact up_call (below_drewN u6 _) hb8
end Go.Proofs.Ytnjhnejebemflaa
