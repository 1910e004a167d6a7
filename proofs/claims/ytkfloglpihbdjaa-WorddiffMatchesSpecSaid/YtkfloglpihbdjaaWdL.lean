
/-
  The law that the functions of package worddiff return the specified results, walked.
-/
import Derived.Test.YtkfloglpihbdjaaWdK
import Derived.Test.YtkfloglpihbdjaaWdF
import Derived.Test.YtkfloglpihbdjaaOver
namespace Go.Proofs.Ytkfloglpihbdjaa
open Go.RowKit
set_option maxRecDepth 4000

set_option maxRecDepth 100000 in
set_option maxHeartbeats 8000000 in
theorem wdspec_walk (s t : ByteArray) (w : World) (hs : s.size ≤ 140737488351232) (ht : t.size ≤ 140737488351232) :
    Calls Try.prog 3 #[.string s, .string t] w (TPost w) := by
  go_enter Try.func3, Try.ntmps3
  go_wp2_with fail
  refine (tokens_any s _ hs).mono ?_
  rintro e w1 ⟨v, rfl, own, hb1⟩
  have b1 := up_alloc (Below.refl w1.heap.size w1) (.cells #[.int .i64 (Lin.lc s), .int .i64 0] 24 (0, 0))
  have F1 := Lib.hid (Flt.new w1 (Lin.lc s) 0 24)
  have B1 := Lib.hid (hb1.trans (b1.mono hb1.size))
  obtain ⟨pk, ck, rfl, S1, -, -⟩ := tl_open own
  have T1 := Lib.hid (S1.mono b1)
  clear own S1 b1 hb1
  go_wp2_with fail
  obtain ⟨W1, hW⟩ : ∃ W, W = w1.alloc (.cells #[.int .i64 (Lin.lc s), .int .i64 0] 24 (0, 0)) := ⟨_, rfl⟩
  rw [← hW] at F1 B1 T1 ⊢
  clear hW
  refine (highlight_any s t _ hs ht).mono ?_
  rintro e w3 ⟨v1, v2, rfl, own1, own2, hb3⟩
  obtain ⟨p1, c1, rfl, row1, -, -, -⟩ := row_of_own own1
  obtain ⟨p2, c2, rfl, row2, -, -, -⟩ := row_of_own own2
  have b3 := up_alloc (Below.refl w3.heap.size w3) (.cells #[.int .i64 (Wd.hc s t), .int .i64 (Wd.hi s t)] 24 (0, 0))
  have u3 := hb3.trans (b3.mono hb3.size)
  have F3 := Lib.hid (Flt.new w3 (Wd.hc s t) (Wd.hi s t) 24)
  have B3 := Lib.hid (up_call B1.out u3)
  have F1c := Lib.hid (F1.out.up u3)
  have T1c := Lib.hid (T1.out.mono u3)
  have R1 := Lib.hid (row1.mono b3)
  have R2 := Lib.hid (row2.mono b3)
  clear own1 own2 row1 row2 b3 hb3 u3 F1 B1 T1
  go_wp2_with fail
  obtain ⟨W3, hW⟩ : ∃ W, W = w3.alloc (.cells #[.int .i64 (Wd.hc s t), .int .i64 (Wd.hi s t)] 24 (0, 0)) := ⟨_, rfl⟩
  rw [← hW] at F3 B3 F1c T1c R1 R2 ⊢
  clear hW
  refine (refOne_any s _ hs).mono ?_
  rintro e w4 ⟨rfl, hb4⟩
  have F3d := Lib.hid (F3.out.up hb4)
  have F1d := Lib.hid (F1c.out.up hb4)
  have B4 := Lib.hid (up_call B3.out hb4)
  have T1d := Lib.hid (T1c.out.mono hb4)
  have R1d := Lib.hid (R1.out.mono hb4)
  have R2d := Lib.hid (R2.out.mono hb4)
  clear hb4 F3 F1c T1c R1 R2 B3
  go_wp2_with fail
  refine (refOne_any t _ ht).mono ?_
  rintro e w5 ⟨rfl, hb5⟩
  have F3e := Lib.hid (F3d.out.up hb5)
  have F1e := Lib.hid (F1d.out.up hb5)
  have B5 := Lib.hid (up_call B4.out hb5)
  have T1e := Lib.hid (T1d.out.mono hb5)
  have R1e := Lib.hid (R1d.out.mono hb5)
  have R2e := Lib.hid (R2d.out.mono hb5)
  clear hb5 F3d F1d T1d R1d R2d B4
  by_cases h1 : Lin.lc s = 0
  · have e1 : tL s = Wd.tk s := if_pos h1
    have z1 := (Lin.lc_zero h1).1
    have l1 := Wd.tk_len s
    rw [e1] at T1e ⊢
    rw [h1] at F1e ⊢
    have f1 := F1e.out.c0
    have H1 := Lib.hid h1
    clear h1 e1
    go_wp2_with fail
    refine (refTokens_any s _ (by omega)).mono ?_
    rintro e w6 ⟨v, rfl, own, hb6⟩
    obtain ⟨pr, cr, rfl, S6, -, -⟩ := toks_open (ownE_ofS own) z1
    have F3f := Lib.hid (F3e.out.up hb6)
    have B6 := Lib.hid (up_call B5.out hb6)
    have T1f := Lib.hid (T1e.out.mono hb6)
    have S6' := Lib.hid S6
    have R1f := Lib.hid (R1e.out.mono hb6)
    have R2f := Lib.hid (R2e.out.mono hb6)
    clear own S6 hb6 F3e T1e R1e R2e B5 f1 F1e
    go_wp2_with fail
    refine (equal_any pk pr (Wd.tk s) (Wd.tk s) _ _ ck cr _ rfl rfl T1f.out S6'.out).mono ?_
    rintro e w7 ⟨rfl, n7, hw7⟩
    rw [eqS_true rfl]
    have F3g : Hid (Flt w7 w3.heap.size (Wd.hc s t) (Wd.hi s t)) := Lib.hid (by rw [hw7]; exact F3f.out.drewN n7)
    have B7 : Hid (Below w.heap.size w w7) := Lib.hid (by rw [hw7]; exact below_drewN B6.out n7)
    have R1g : Hid (Row prE w7 p1 (Wd.h1 s t)) := Lib.hid (by rw [hw7]; exact R1f.out.drewN n7)
    have R2g : Hid (Row prE w7 p2 (Wd.h2 s t)) := Lib.hid (by rw [hw7]; exact R2f.out.drewN n7)
    clear hw7 F3f B6 T1f S6' R1f R2f
    by_cases h2 : Lin.lc t = 0
    · obtain ⟨q1, q2, q3, q4⟩ := hl_ok H1.out h2
      have z2 := (Lin.lc_zero h2).1
      have o1 := Wd.out1 s t
      have o2 := Wd.out2 s t
      have m1 := ord_len _ _ o1.1
      have m2 := ord_len _ _ o2.1
      rw [q1, q2] at F3g
      rw [q3] at R1g ⊢
      rw [q4] at R2g ⊢
      rw [h2]
      have RH := fun w => refHighlight_any s t w z1 z2
      unfold RhPost at RH
      obtain ⟨x, hx⟩ : ∃ x, x = (Wd.rg 1 (Dif.al (Wd.tk s) (Wd.tk t))).full := ⟨_, rfl⟩
      obtain ⟨y, hy⟩ : ∃ x, x = (Wd.rg 2 (Dif.al (Wd.tk s) (Wd.tk t))).full := ⟨_, rfl⟩
      rw [← hx] at R1g m1 RH ⊢
      rw [← hy] at R2g m2 RH ⊢
      have H2 := Lib.hid h2
      clear hx hy h2 q1 q2 q3 q4 o1 o2
      go_wp2_with fail
      refine (RH _).mono ?_
      rintro e w8 ⟨u1, u2, rfl, ow1, ow2, hb8⟩
      obtain ⟨p3, c3, rfl, row3, -, -, -⟩ := row_of_own ow1
      obtain ⟨p4, c4, rfl, row4, -, -, -⟩ := row_of_own ow2
      have R3 := Lib.hid row3
      have R4 := Lib.hid row4
      have R1h := Lib.hid (R1g.out.mono hb8)
      have R2h := Lib.hid (R2g.out.mono hb8)
      have B8 := Lib.hid (up_call B7.out hb8)
      have f3 := (F3g.out.up hb8).c0
      clear ow1 ow2 row3 row4 hb8 RH R1g R2g B7 F3g
      go_wp2_with fail
      refine (pairs_any p1 p3 x x _ _ c1 c3 _ rfl rfl R1h.out R3.out (by omega)).mono ?_
      rintro e w9 ⟨rfl, n9, hw9⟩
      rw [show eqR x x = true from decide_eq_true rfl]
      have HW := Lib.hid hw9
      clear hw9
      go_wp2_with fail
      refine (pairs_any p2 p4 y y _ _ c2 c4 _ rfl rfl (by rw [HW.out]; exact R2h.out.drewN n9) (by rw [HW.out]; exact R4.out.drewN n9) (by omega)).mono ?_
      rintro e wA ⟨rfl, nA, hwA⟩
      rw [show eqR y y = true from decide_eq_true rfl]
      have BA : Hid (Below w.heap.size w wA) := Lib.hid (by rw [hwA, HW.out]; exact below_drewN (below_drewN B8.out n9) nA)
      clear hwA HW
      go_wp2_with fail
      refine (split_any _).mono ?_
      rintro e wB ⟨rfl, hbB⟩
      have BB := Lib.hid (up_call BA.out hbB)
      clear hbB
      go_wp2_with fail
      go_ret
      exact ⟨rfl, BB.out⟩
    · obtain ⟨q1, q2, q3, q4⟩ := hl_bad2 H1.out h2
      rw [q1, q2] at F3g
      rw [q3, q4]
      have g2 : (Lin.lc t == 0) = false := by rw [beq_eq_false_iff_ne]; exact h2
      have g3 : ¬ Lin.lc t = 0 := h2
      clear q1 q2 q3 q4 h2
      go_wp2_with fail
      have CA := fun n => over_call (at_any (Lin.lc t) 1 (over w7 n))
      have CS := fun n => over_call ((split_any (over w7 n)).mono fun e w' h => (⟨h.1, h.2⟩ : BPost (.bool true) (over w7 n) e w'))
      refine over_lit (by kernel_rfl) (by kernel_rfl) ?_
      have r4 := over_cell F3g.out.lt F3g.out.c0
      have r5 := over_cell F3g.out.lt F3g.out.c1
      repeat (go_big_quiet_step (first | (go_at_call 11; exact CA _) | (go_at_call 12; exact CS _)))
      refine wpQuiet_nil ?_
      rintro _ ⟨nq, rfl⟩
      clear r4 r5 CA CS
      go_wp2_with fail
      go_ret
      exact ⟨rfl, up_call B7.out (over_below _ _)⟩
  · obtain ⟨q1, q2, q3, q4⟩ := hl_bad1 (t := t) h1
    rw [q1, q2] at F3e
    rw [q3, q4, show tL s = [] from if_neg h1]
    have g2 : (Lin.lc s == 0) = false := by rw [beq_eq_false_iff_ne]; exact h1
    have g3 : ¬ Lin.lc s = 0 := h1
    clear q1 q2 q3 q4 h1
    go_wp2_with fail
    have CA := fun n => over_call (at_any (Lin.lc s) 0 (over w5 n))
    have CS := fun n => over_call ((split_any (over w5 n)).mono fun e w' h => (⟨h.1, h.2⟩ : BPost (.bool true) (over w5 n) e w'))
    refine over_lit (by kernel_rfl) (by kernel_rfl) ?_
    have r2 := over_cell F1e.out.lt F1e.out.c0
    have r3 := over_cell F1e.out.lt F1e.out.c1
    have r4 := over_cell F3e.out.lt F3e.out.c0
    have r5 := over_cell F3e.out.lt F3e.out.c1
    repeat (go_big_quiet_step (first | (go_at_call 11; exact CA _) | (go_at_call 12; exact CS _)))
    refine wpQuiet_nil ?_
    rintro _ ⟨nq, rfl⟩
    clear r2 r3 r4 r5 CA CS
    go_wp2_with fail
    go_ret
    exact ⟨rfl, up_call B5.out (over_below _ _)⟩
end Go.Proofs.Ytkfloglpihbdjaa
