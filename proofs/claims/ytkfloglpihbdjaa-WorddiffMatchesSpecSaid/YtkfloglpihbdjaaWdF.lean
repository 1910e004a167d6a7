
/-
  The laws on the highlighted parts of two lines, walked: what is not highlighted is equal, and is what the texts of tokens keep.
-/
import Derived.Test.YtkfloglpihbdjaaWdE
import Derived.Test.YtkfloglpihbdjaaDfC
namespace Go.Proofs.Ytkfloglpihbdjaa
open Go.RowKit
set_option maxRecDepth 4000

theorem ord_len (l : List (Nat × Nat)) : ∀ n, Wd.Ord n l → l.length ≤ n := by
  refine Wd.snoc_rec (P := fun l => ∀ n, Wd.Ord n l → l.length ≤ n) (fun n _ => Nat.zero_le _) (fun l x ih n h => ?_) l
  have e := h.each x (List.mem_append_right _ (List.mem_singleton_self x))
  have p := List.pairwise_append.1 h.pw
  have := ih (x.1 - 1) ⟨p.1, fun q hq => ⟨(h.each q (List.mem_append_left _ hq)).1, by have := p.2.2 q hq x (List.mem_singleton_self x); omega⟩⟩
  rw [List.length_append, List.length_singleton]
  omega
theorem hc_zero {s t : ByteArray} : Wd.hc s t = 0 ↔ Lin.lc s = 0 ∧ Lin.lc t = 0 := by
  unfold Wd.hc
  by_cases h : Lin.lc s = 0
  · rw [if_neg (by simp [h])]; exact ⟨fun e => ⟨h, e⟩, fun e => e.2⟩
  · rw [if_pos h]; exact ⟨fun e => (h e).elim, fun e => (h e.1).elim⟩
/-- what both lines keep -/
noncomputable def kS (s t : ByteArray) : ByteArray := Lin.mk (Wd.jo (Dif.kp (Wd.tk s) (Wd.tk t)))
theorem hl_rest {s t : ByteArray} (h : Lin.lc s = 0 ∧ Lin.lc t = 0) : Wd.Ord s.size (Wd.h1 s t) ∧ rS s (Wd.h1 s t) = kS s t ∧ Wd.Ord t.size (Wd.h2 s t) ∧ rS t (Wd.h2 s t) = kS s t := by
  obtain ⟨-, -, e1, e2⟩ := hl_ok h.1 h.2
  have o1 := Wd.out1 s t
  have o2 := Wd.out2 s t
  rw [e1, e2]
  exact ⟨o1.1, by unfold rS kS; rw [o1.2], o2.1, by unfold rS kS; rw [o2.2]⟩
theorem hl_same {s : ByteArray} (h : Lin.lc s = 0) : Wd.h1 s s = [] ∧ Wd.h2 s s = [] := by
  obtain ⟨-, -, e1, e2⟩ := hl_ok h h
  rw [e1, e2]; exact ⟨Wd.rg_same 1 _, Wd.rg_same 2 _⟩

set_option maxRecDepth 100000 in
set_option maxHeartbeats 4000000 in
theorem unmarked_walk (s t : ByteArray) (w : World) (hs : s.size ≤ 140737488351232) (ht : t.size ≤ 140737488351232) :
    Calls Try.prog 5 #[.string s, .string t] w (TPost w) := by
  go_enter Try.func5, Try.ntmps5
  go_wp2_with fail
  refine (highlight_any s t _ hs ht).mono ?_
  rintro e w1 ⟨v1, v2, rfl, own1, own2, hb1⟩
  have b1 := up_alloc (Below.refl w1.heap.size w1) (.cells #[.int .i64 (Wd.hc s t), .int .i64 (Wd.hi s t)] 24 (0, 0))
  have F1 := Lib.hid (Flt.new w1 (Wd.hc s t) (Wd.hi s t) 24)
  have B1 := Lib.hid (hb1.trans (b1.mono hb1.size))
  obtain ⟨p1, c1, rfl, row1, -, -, -⟩ := row_of_own own1
  obtain ⟨p2, c2, rfl, row2, -, -, -⟩ := row_of_own own2
  have R1 := Lib.hid (row1.mono b1)
  have R2 := Lib.hid (row2.mono b1)
  clear own1 own2 row1 row2 b1 hb1
  by_cases h0 : Wd.hc s t = 0
  · have hz := hc_zero.1 h0
    have HR := Lib.hid (hl_rest hz)
    have z1 := (Lin.lc_zero hz.1).1
    have z2 := (Lin.lc_zero hz.2).1
    have SM : Hid (s = t → (Wd.h1 s t).length = 0 ∧ (Wd.h2 s t).length = 0) := Lib.hid (fun e => by subst e; rw [(hl_same hz.1).1, (hl_same hz.1).2]; exact ⟨rfl, rfl⟩)
    rw [h0] at F1 B1 R1 R2 ⊢
    have l1 := ord_len _ _ HR.out.1
    have l2 := ord_len _ _ HR.out.2.2.1
    have K1 := fun Y (h : Row prE Y p1 (Wd.h1 s t)) => rest_any s p1 (Wd.h1 s t) _ c1 Y rfl h HR.out.1 (by omega) (by omega)
    have K2 := fun Y (h : Row prE Y p2 (Wd.h2 s t)) => rest_any t p2 (Wd.h2 s t) _ c2 Y rfl h HR.out.2.2.1 (by omega) (by omega)
    rw [HR.out.2.1] at K1
    rw [HR.out.2.2.2] at K2
    obtain ⟨k, hk⟩ : ∃ k, k = kS s t := ⟨_, rfl⟩
    rw [← hk] at K1 K2
    obtain ⟨x, hx⟩ : ∃ x, x = Wd.h1 s t := ⟨_, rfl⟩
    obtain ⟨y, hy⟩ : ∃ x, x = Wd.h2 s t := ⟨_, rfl⟩
    rw [← hx] at R1 K1 SM l1 ⊢
    rw [← hy] at R2 K2 SM l2 ⊢
    have f0 := F1.out.c0
    have HZ := Lib.hid hz
    clear hk hx hy h0 HR hz
    go_wp2_with fail
    obtain ⟨W, hW⟩ : ∃ W, W = w1.alloc (.cells #[.int .i64 0, .int .i64 (Wd.hi s t)] 24 (0, 0)) := ⟨_, rfl⟩
    rw [← hW] at B1 R1 R2 ⊢
    clear hW
    refine (K1 _ R1.out).mono ?_
    rintro e w2 ⟨rfl, n, hw⟩
    have W2 := Lib.hid hw
    clear hw
    go_wp2_with fail
    refine (K2 w2 (by rw [W2.out]; exact R2.out.drewN n)).mono ?_
    rintro e w3 ⟨rfl, m, hw⟩
    have B3 : Hid (Below w.heap.size w w3) := Lib.hid (by rw [hw, W2.out]; exact below_drewN (below_drewN B1.out n) m)
    clear hw W2
    by_cases e : s = t
    · have g1 := tl_true e
      obtain ⟨q1, q2⟩ := SM.out e
      have E := Lib.hid e
      rw [q1, q2]
      clear e q1 q2
      go_wp2_with fail
      refine (split_any _).mono ?_
      rintro e w4 ⟨rfl, hb4⟩
      have B4 := Lib.hid (up_call B3.out hb4)
      clear hb4
      go_wp2_with fail
      go_ret
      exact ⟨rfl, B4.out⟩
    · have g1 := tl_false e
      have E := Lib.hid e
      clear e
      go_wp2_with fail
      refine (split_any _).mono ?_
      rintro e w4 ⟨rfl, hb4⟩
      have B4 := Lib.hid (up_call B3.out hb4)
      clear hb4
      go_wp2_with fail
      go_ret
      exact ⟨rfl, B4.out⟩
  · have hne : (Wd.hc s t == 0) = false := by rw [beq_eq_false_iff_ne]; exact h0
    have f0 := F1.out.c0
    have H0 := Lib.hid h0
    clear h0
    go_wp2_with fail
    refine (split_any _).mono ?_
    rintro e w3 ⟨rfl, hb3⟩
    have B3 := Lib.hid (up_call B1.out hb3)
    clear hb3
    go_wp2_with fail
    go_ret
    exact ⟨rfl, B3.out⟩

theorem tl_open {base : Nat} {w : World} {v : Value} {s : ByteArray} (h : OwnS base w v (tL s)) :
    ∃ p cap, v = .slice p (tL s).length cap ∧ Sts w p (tL s) ∧ (p = none → cap = 0) ∧ (tL s).length ≤ cap := by
  obtain ⟨p, cap, e, row, h1, h2, -⟩ := row_of_own (ownE_ofS h)
  refine ⟨p, cap, e, row.sts (fun x hx => ?_) ?_, h1, h2⟩
  · unfold tL at hx
    split at hx
    · rename_i h0
      have := Wd.tk_size s x hx
      have := (Lin.lc_zero h0).1
      omega
    · cases hx
  · unfold tL
    split
    · rename_i h0
      have := Wd.tk_len s
      have := (Lin.lc_zero h0).1
      omega
    · simp

set_option maxRecDepth 100000 in
set_option maxHeartbeats 8000000 in
theorem aslines_walk (s t : ByteArray) (w : World) (hs : s.size ≤ 140737488351232) (ht : t.size ≤ 140737488351232) :
    Calls Try.prog 7 #[.string s, .string t] w (TPost w) := by
  go_enter Try.func7, Try.ntmps7
  go_wp2_with fail
  refine (tokens_any s _ hs).mono ?_
  rintro e w1 ⟨v, rfl, own, hb1⟩
  have b1 := up_alloc (Below.refl w1.heap.size w1) (.cells #[.int .i64 (Lin.lc s), .int .i64 0] 24 (0, 0))
  have F1 := Lib.hid (Flt.new w1 (Lin.lc s) 0 24)
  have B1 := Lib.hid (hb1.trans (b1.mono hb1.size))
  obtain ⟨pk, ck, rfl, S1, -, -⟩ := tl_open own
  have T1 := Lib.hid (S1.mono b1)
  clear own S1 b1 hb1
  go_wp2_with fail
  obtain ⟨W1, hW⟩ : ∃ W, W = w1.alloc (.cells #[.int .i64 (Lin.lc s), .int .i64 0] 24 (0, 0)) := ⟨_, rfl⟩
  rw [← hW] at F1 B1 T1 ⊢
  clear hW
  refine (tokens_any t _ ht).mono ?_
  rintro e w2 ⟨v, rfl, own, hb2⟩
  have b2 := up_alloc (Below.refl w2.heap.size w2) (.cells #[.int .i64 (Lin.lc t), .int .i64 0] 24 (0, 0))
  have u2 := hb2.trans (b2.mono hb2.size)
  have F2 := Lib.hid (Flt.new w2 (Lin.lc t) 0 24)
  have B2 := Lib.hid (up_call B1.out u2)
  have F1b := Lib.hid (F1.out.up u2)
  have T1b := Lib.hid (T1.out.mono u2)
  obtain ⟨pl, cl, rfl, S2, -, -⟩ := tl_open own
  have T2 := Lib.hid (S2.mono b2)
  clear own S2 b2 hb2 u2 F1 B1 T1
  go_wp2_with fail
  obtain ⟨W2, hW⟩ : ∃ W, W = w2.alloc (.cells #[.int .i64 (Lin.lc t), .int .i64 0] 24 (0, 0)) := ⟨_, rfl⟩
  rw [← hW] at F2 B2 F1b T1b T2 ⊢
  clear hW
  refine (highlight_any s t _ hs ht).mono ?_
  rintro e w3 ⟨v1, v2, rfl, own1, own2, hb3⟩
  obtain ⟨p1, c1, rfl, row1, -, -, -⟩ := row_of_own own1
  obtain ⟨p2, c2, rfl, -, -, -, -⟩ := row_of_own own2
  have b3 := up_alloc (Below.refl w3.heap.size w3) (.cells #[.int .i64 (Wd.hc s t), .int .i64 (Wd.hi s t)] 24 (0, 0))
  have u3 := hb3.trans (b3.mono hb3.size)
  have F3 := Lib.hid (Flt.new w3 (Wd.hc s t) (Wd.hi s t) 24)
  have B3 := Lib.hid (up_call B2.out u3)
  have F1c := Lib.hid (F1b.out.up u3)
  have F2c := Lib.hid (F2.out.up u3)
  have T1c := Lib.hid (T1b.out.mono u3)
  have T2c := Lib.hid (T2.out.mono u3)
  have R3 := Lib.hid (row1.mono b3)
  clear own1 own2 row1 b3 hb3 u3 F2 B2 F1b T1b T2
  go_wp2_with fail
  obtain ⟨W3, hW⟩ : ∃ W, W = w3.alloc (.cells #[.int .i64 (Wd.hc s t), .int .i64 (Wd.hi s t)] 24 (0, 0)) := ⟨_, rfl⟩
  rw [← hW] at F3 B3 F1c F2c T1c T2c R3 ⊢
  clear hW
  refine (diffCommon_any pk pl (tL s) (tL t) _ _ ck cl _ rfl rfl T1c.out T2c.out).mono ?_
  rintro e w4 ⟨v, rfl, own, hb4⟩
  obtain ⟨pc, cc, rfl, rowc, -, -, -⟩ := row_of_own own
  have b4 := up_alloc (Below.refl w4.heap.size w4) (.cells #[.int .i64 (tC (tL s) (tL t)), .int .i64 (tI (tL s) (tL t))] 24 (0, 0))
  have u4 := hb4.trans (b4.mono hb4.size)
  have F4 := Lib.hid (Flt.new w4 (tC (tL s) (tL t)) (tI (tL s) (tL t)) 24)
  have B4 := Lib.hid (up_call B3.out u4)
  have F1d := Lib.hid (F1c.out.up u4)
  have F2d := Lib.hid (F2c.out.up u4)
  have F3d := Lib.hid (F3.out.up u4)
  have R4 := Lib.hid (R3.out.mono u4)
  have C4 := Lib.hid (rowc.mono b4)
  clear own rowc b4 hb4 u4 F3 B3 F1c F2c T1c T2c R3
  by_cases hz : Lin.lc s = 0 ∧ Lin.lc t = 0
  · have HR := Lib.hid (hl_rest hz)
    have h0 := hc_zero.2 hz
    have z1 := (Lin.lc_zero hz.1).1
    have e1 : tL s = Wd.tk s := if_pos hz.1
    have e2 : tL t = Wd.tk t := if_pos hz.2
    have OK := Wd.tk_okD hz.1 hz.2
    rw [e1, e2, (tC_ok OK).1, (tC_ok OK).2] at F4 F1d F2d F3d R4 B4 C4 ⊢
    rw [show kD (Wd.tk s) (Wd.tk t) = Dif.kp (Wd.tk s) (Wd.tk t) from if_pos OK] at C4 ⊢
    rw [hz.1] at F1d ⊢
    rw [hz.2] at F2d ⊢
    rw [h0] at F3d ⊢
    have sub := (Dif.kp_all (Wd.tk s) (Wd.tk t)).1
    have hkl : (Dif.kp (Wd.tk s) (Wd.tk t)).length ≤ 80 := by have := sub.length_le; have := Wd.tk_len s; omega
    have hks : ∀ x ∈ Dif.kp (Wd.tk s) (Wd.tk t), x.size ≤ 140737488351232 := fun x hx => by have := Wd.tk_size s x (sub.subset hx); omega
    have CS := Lib.hid (C4.out.sts hks (by omega))
    have l1 := ord_len _ _ HR.out.1
    have hjo : (Wd.jo (Dif.kp (Wd.tk s) (Wd.tk t))).length ≤ 1000000 := by
      have r := (ro_len s.data.toList (l := Wd.h1 s t) (n := s.size) HR.out.1 (Wd.dl s).symm (Wd.h1 s t).length (Nat.le_refl _)).1
      have q := congrArg ByteArray.size HR.out.2.1
      unfold rS kS at q
      rw [Lin.mk_size, Lin.mk_size, List.length_append, List.length_drop, Wd.dl] at q
      rw [List.take_length, Wd.dl] at r
      omega
    have K1 := fun Y (h : Row prE Y p1 (Wd.h1 s t)) => rest_any s p1 (Wd.h1 s t) _ c1 Y rfl h HR.out.1 (by omega) (by omega)
    rw [HR.out.2.1] at K1
    have K2 := fun Y (h : Sts Y pc (Dif.kp (Wd.tk s) (Wd.tk t))) => ltogether_any pc _ _ cc Y rfl h hjo
    rw [show Lin.mk (Wd.jo (Dif.kp (Wd.tk s) (Wd.tk t))) = kS s t from rfl] at K2
    obtain ⟨k, hk⟩ : ∃ k, k = kS s t := ⟨_, rfl⟩
    rw [← hk] at K1 K2
    obtain ⟨x, hx⟩ : ∃ x, x = Wd.h1 s t := ⟨_, rfl⟩
    obtain ⟨y, hy⟩ : ∃ x, x = Dif.kp (Wd.tk s) (Wd.tk t) := ⟨_, rfl⟩
    rw [← hx] at R4 K1 l1 ⊢
    rw [← hy] at CS K2 ⊢
    have f1 := F1d.out.c0
    have f2 := F2d.out.c0
    have f3 := F3d.out.c0
    have f4 := F4.out.c0
    have HZ := Lib.hid hz
    clear hk hx hy h0 HR hz e1 e2 OK sub hkl hks hjo C4
    go_wp2_with fail
    obtain ⟨W4, hW⟩ : ∃ W, W = w4.alloc (.cells #[.int .i64 0, .int .i64 0] 24 (0, 0)) := ⟨_, rfl⟩
    rw [← hW] at B4 R4 CS ⊢
    clear hW f1 f2 f3 f4 F1d F2d F3d F4
    refine (K1 _ R4.out).mono ?_
    rintro e w5 ⟨rfl, n, hw⟩
    have B5 : Hid (Below w.heap.size w w5) := Lib.hid (by rw [hw]; exact below_drewN B4.out n)
    have CS5 : Hid (Sts w5 pc y) := Lib.hid (by rw [hw]; exact sts_drew CS.out n)
    clear hw
    go_wp2_with fail
    refine (K2 _ CS5.out).mono ?_
    rintro e w6 ⟨rfl, rfl⟩
    go_wp2_with fail
    refine (split_any _).mono ?_
    rintro e w7 ⟨rfl, hb7⟩
    have B7 := Lib.hid (up_call B5.out hb7)
    clear hb7
    go_wp2_with fail
    go_ret
    exact ⟨rfl, B7.out⟩
  · have f1 := F1d.out.c0
    have f2 := F2d.out.c0
    have f3 := F3d.out.c0
    have f4 := F4.out.c0
    by_cases h1 : Lin.lc s = 0
    case' pos =>
      have h2 : ¬ Lin.lc t = 0 := fun e => hz ⟨h1, e⟩
      have g2 : (Lin.lc t == 0) = false := by rw [beq_eq_false_iff_ne]; exact h2
      rw [h1] at f1
      have H1 := Lib.hid h1
      have H2 := Lib.hid h2
      clear h1 h2 hz
    case' neg =>
      have g1 : (Lin.lc s == 0) = false := by rw [beq_eq_false_iff_ne]; exact h1
      have H1 := Lib.hid h1
      clear h1 hz
    all_goals
      go_wp2_with fail
      refine (split_any _).mono ?_
      rintro e w5 ⟨rfl, hb5⟩
      have B5 := Lib.hid (up_call B4.out hb5)
      clear hb5
      go_wp2_with fail
      go_ret
      exact ⟨rfl, B5.out⟩
end Go.Proofs.Ytkfloglpihbdjaa
