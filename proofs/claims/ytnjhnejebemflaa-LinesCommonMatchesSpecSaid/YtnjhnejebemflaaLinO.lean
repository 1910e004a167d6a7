/-
  The walk of LinesCommonMatchesSpec.
-/
import Derived.Test.YtnjhnejebemflaaLinJ
import Derived.Test.YtnjhnejebemflaaOver
namespace Go.Proofs.Ytnjhnejebemflaa
open Go.RowKit

theorem t_zero {l m : List ByteArray} (h : tC l m = 0) : Lin.vC l = 0 ∧ Lin.vC m = 0 := by
  by_cases h1 : Lin.vC l = 0
  · refine ⟨h1, ?_⟩
    rw [tC, if_pos h1] at h; exact h
  · rw [tC, if_neg h1] at h; exact (h1 h).elim
theorem c_bad {l m : List ByteArray} (h : ¬ tC l m = 0) : cP l m = 0 ∧ cS l m = 0 := by
  have : ¬ (Lin.vC l = 0 ∧ Lin.vC m = 0) := fun h' => h (t_none h'.1 h'.2).1
  exact ⟨if_neg this, if_neg this⟩

set_option maxHeartbeats 4000000 in
theorem linesCommon_walk (p : Option Addr) (l : List ByteArray) (cap : Nat) (q : Option Addr) (m : List ByteArray) (cap' : Nat) (w : World)
    (hp : Sts w p l) (hc : p = none → cap = 0) (_ : l.length ≤ 8796093021952) (hl : l.length ≤ cap) (hq : Sts w q m) (hc' : q = none → cap' = 0) (_ : m.length ≤ 8796093021952) (hl' : m.length ≤ cap') :
    Calls Try.prog 4 #[.slice p l.length cap, .slice q m.length cap'] w (TPost w) := by
  have HP := Lib.hid hp
  have HQ := Lib.hid hq
  have hcm := fun w a b => common_any p q l m l.length m.length cap cap' w rfl rfl a b hc hc' hl hl'
  have CM := Lib.hid hcm
  clear hp hq hcm hc hc'
  go_enter Try.func4, Try.ntmps4
  go_wp2_with fail
  refine (CM.out _ HP.out HQ.out).mono ?_
  rintro e w1 ⟨rfl, u1⟩
  go_wp2_with fail
  refine (twoFault_any p q l m _ _ _ _ _ rfl rfl (HP.out.mono (up_alloc u1 _)) (HQ.out.mono (up_alloc u1 _))).mono ?_
  rintro e w2 ⟨rfl, hb2⟩
  by_cases h1 : tC l m = 0
  · obtain ⟨v1, v2⟩ := t_zero h1
    have hP : cP l m = Lin.cp l m := if_pos ⟨v1, v2⟩
    have hS : cS l m = Lin.cs (l.drop (Lin.cp l m)) (m.drop (Lin.cp l m)) := if_pos ⟨v1, v2⟩
    have F1 := (Flt.new w1 (tC l m) (tI l m) 24).up hb2
    have u2 := up_call (up_alloc u1 (.cells #[.int .i64 (tC l m), .int .i64 (tI l m)] 24 (0, 0))) hb2
    rw [h1] at F1 ⊢
    obtain ⟨a0, a1, -, -, a4⟩ := F1
    obtain ⟨P, hPd⟩ : ∃ P, P = Lin.cp l m := ⟨_, rfl⟩
    obtain ⟨S, hSd⟩ : ∃ S, S = Lin.cs (l.drop P) (m.drop P) := ⟨_, rfl⟩
    rw [← hPd] at hP hS
    rw [← hSd] at hS
    rw [hP, hS]
    obtain ⟨k1, k2⟩ := Lin.cp_le l m
    obtain ⟨k3, k4⟩ := Lin.cs_le (l.drop P) (m.drop P)
    rw [← hPd] at k1 k2
    rw [← hSd] at k3 k4
    rw [List.length_drop] at k3 k4
    have HPd := Lib.hid hPd
    have HSd := Lib.hid hSd
    clear h1 v1 v2 hP hS hPd hSd hb2 u1
    have hl1 := HP.out.len
    have hl2 := HQ.out.len
    obtain ⟨A, hA⟩ : ∃ A, A = l.length - S := ⟨_, rfl⟩
    obtain ⟨B, hB⟩ : ∃ B, B = m.length - S := ⟨_, rfl⟩
    have i1 : (l.length : Int) - (S : Int) = (A : Int) := by omega
    have i2 : (m.length : Int) - (S : Int) = (B : Int) := by omega
    have W1 : Hid (IntKind.i64.wrap (A : Int) = (A : Int)) := Lib.hid (IntWalk.i64_in _ (by omega))
    have W2 : Hid (IntKind.i64.wrap (B : Int) = (B : Int)) := Lib.hid (IntWalk.i64_in _ (by omega))
    have b1 : (0 : Int) ≤ (P : Int) := by omega
    have b2 : (P : Int) ≤ (l.length : Int) := by omega
    have b3 : (P : Int) ≤ (m.length : Int) := by omega
    have b4 : (0 : Int) ≤ (S : Int) := by omega
    have b5 : (P : Int) + (S : Int) ≤ (l.length : Int) := by omega
    have b6 : (P : Int) + (S : Int) ≤ (m.length : Int) := by omega
    have s1 := fun w => run_upto p l.length cap P (by omega) w
    have s2 := fun w => run_upto q m.length cap' P (by omega) w
    have s3 := fun w => run_from p l.length cap A (by omega) w
    have s4 := fun w => run_from q m.length cap' B (by omega) w
    have hpre : Hid (l.take P = m.take P) := Lib.hid (by rw [HPd.out]; exact Lin.cp_take l m)
    have hsuf : Hid (l.drop A = m.drop B) := Lib.hid (by
      have h := Lin.cs_drop (l.drop P) (m.drop P)
      rw [← HSd.out] at h
      rw [List.length_drop, List.length_drop, List.drop_drop, List.drop_drop] at h
      rw [hA, hB, show l.length - S = P + (l.length - P - S) by omega, show m.length - S = P + (m.length - P - S) by omega]
      exact h)
    have uA := up_alloc u2 (.cells #[.int .i64 0, .int .i64 (tI l m)] 24 (0, 0))
    have c1 : ∀ w', Below w.heap.size w w' → Calls Try.prog 15 #[.slice p P cap, .slice q P cap'] w' (QPost (.bool true) w') := fun w' hu => by
      have h := equal_any p q (l.take P) (m.take P) P P cap cap' w' (by rw [List.length_take]; omega) (by rw [List.length_take]; omega) ((HP.out.upto P k1).mono hu) ((HQ.out.upto P k2).mono hu)
      rw [eqS_true hpre.out] at h; exact h
    have c2 : ∀ w', Below w.heap.size w w' → Calls Try.prog 15 #[.slice (sAt p A cap) (l.length - A) (cap - A), .slice (sAt q B cap') (m.length - B) (cap' - B)] w' (QPost (.bool true) w') := fun w' hu => by
      have h := equal_any (sAt p A cap) (sAt q B cap') (l.drop A) (m.drop B) (l.length - A) (m.length - B) (cap - A) (cap' - B) w' (by rw [List.length_drop]) (by rw [List.length_drop]) ((HP.out.from A cap (by omega) hl).mono hu) ((HQ.out.from B cap' (by omega) hl').mono hu)
      rw [eqS_true hsuf.out] at h; exact h
    have C1 := Lib.hid c1
    have C2 := Lib.hid c2
    clear c1 c2
    have w1' := W1.out
    have w2' := W2.out
    clear hA hB
    go_wp2_with fail
    go_quiet ((first
      | (go_at_call_of 15 (Value.slice p P cap); exact Calls.quiet_of (C1.out _ (below_drewN uA _)))
      | (go_at_call_of 15 (sAt p A cap); exact Calls.quiet_of (C2.out _ (below_drewN uA _)))))
    clear w1' w2' s1 s2 s3 s4 i1 i2
    have HUA := Lib.hid uA
    have hPS : Hid (∀ (h1 : P < l.length) (h2 : P < m.length), l[P] ≠ m[P]) := Lib.hid (fun h1 h2 => by
      have h := Lin.cp_next l m (by rw [← HPd.out]; exact h1) (by rw [← HPd.out]; exact h2)
      simp only [← HPd.out] at h; exact h)
    by_cases a1 : P < l.length
    · have g1 : decide (P < l.length) = true := by simpa using a1
      by_cases a2 : P < m.length
      · have g2 : decide (P < m.length) = true := by simpa using a2
        obtain ⟨b, off, rfl, hb, hcl⟩ := (HP.out.mono u2).cell a1
        obtain ⟨b', off', rfl, hb', hcm⟩ := (HQ.out.mono u2).cell a2
        have hne := hPS.out a1 a2
        obtain ⟨x, hx⟩ : ∃ x, x = l[P] := ⟨_, rfl⟩
        obtain ⟨y, hy⟩ : ∃ y, y = m[P] := ⟨_, rfl⟩
        rw [← hx] at hcl hne
        rw [← hy] at hcm hne
        have e1 := tl_false hne
        have b7 : (P : Int) < (l.length : Int) := by omega
        have b8 : (P : Int) < (m.length : Int) := by omega
        clear hx hy hne
        go_wp2_with fail
        go_quiet (fail)
        clear e1 hcl hcm
        by_cases a3 : P + S < l.length
        · have g3 : decide ((P : Int) + (S : Int) < (l.length : Int)) = true := by rw [decide_eq_true_iff]; omega
          by_cases a4 : P + S < m.length
          · have g4 : decide ((P : Int) + (S : Int) < (m.length : Int)) = true := by rw [decide_eq_true_iff]; omega
            obtain ⟨i, hi⟩ : ∃ i, i = l.length - S - 1 := ⟨_, rfl⟩
            obtain ⟨j, hj⟩ : ∃ j, j = m.length - S - 1 := ⟨_, rfl⟩
            have hil : i < l.length := by omega
            have hjl : j < m.length := by omega
            have hne2 : l[i] ≠ m[j] := by
              have h := Lin.cs_next (l.drop P) (m.drop P) (by rw [← HSd.out, List.length_drop]; omega) (by rw [← HSd.out, List.length_drop]; omega)
              simp only [List.getElem_drop, List.length_drop, ← HSd.out] at h
              have t1 : P + (l.length - P - 1 - S) = i := by omega
              have t2 : P + (m.length - P - 1 - S) = j := by omega
              simp only [t1, t2] at h
              exact h
            obtain ⟨c, o, ec, hb2, hcl2⟩ := (HP.out.mono u2).cell hil
            cases ec
            obtain ⟨c, o, ec, hb2', hcm2⟩ := (HQ.out.mono u2).cell hjl
            cases ec
            obtain ⟨x2, hx2⟩ : ∃ x, x = l[i] := ⟨_, rfl⟩
            obtain ⟨y2, hy2⟩ : ∃ y, y = m[j] := ⟨_, rfl⟩
            rw [← hx2] at hcl2 hne2
            rw [← hy2] at hcm2 hne2
            have e2 := tl_false hne2
            have i3 : (l.length : Int) - (S : Int) - 1 = (i : Int) := by omega
            have i4 : (m.length : Int) - (S : Int) - 1 = (j : Int) := by omega
            have W3 : Hid (IntKind.i64.wrap (i : Int) = (i : Int)) := Lib.hid (IntWalk.i64_in _ (by omega))
            have W4 : Hid (IntKind.i64.wrap (j : Int) = (j : Int)) := Lib.hid (IntWalk.i64_in _ (by omega))
            have W5 : Hid (IntKind.i64.wrap ((l.length : Int) - (S : Int)) = (l.length : Int) - (S : Int)) := Lib.hid (IntWalk.i64_in _ (by omega))
            have W6 : Hid (IntKind.i64.wrap ((m.length : Int) - (S : Int)) = (m.length : Int) - (S : Int)) := Lib.hid (IntWalk.i64_in _ (by omega))
            have b9 : (i : Int) < (l.length : Int) := by omega
            have b10 : (j : Int) < (m.length : Int) := by omega
            have b11 : (0 : Int) ≤ (i : Int) := by omega
            have b12 : (0 : Int) ≤ (j : Int) := by omega
            clear hx2 hy2 hne2 hi hj
            have w3' := W3.out; have w4' := W4.out; have w5' := W5.out; have w6' := W6.out
            go_wp2_with fail
            refine over_lit2 b (off + i) b' (off' + j) (.string x2) (.string y2) (by kernel_rfl) (by kernel_rfl) (by simp; omega) (by simp only [World.cell?_drewN]; rw [World.cell?_alloc_lt _ _ _ hb2]; exact hcl2) (by simp; omega) (by simp only [World.cell?_drewN]; rw [World.cell?_alloc_lt _ _ _ hb2']; exact hcm2) ?_
            intro r1 r2
            repeat (go_big_quiet_step ((go_at_call 16; exact over_call (pair_any _))))
            refine wpQuiet_nil ?_
            rintro _ ⟨nq2, rfl⟩
            clear i3 i4 w3' w4' w5' w6'
            go_wp2_with fail
            go_ret
            refine ⟨rfl, ?_⟩
            exact up_call (below_drewN HUA.out _) (over_below _ _)
          · have g4 : decide ((P : Int) + (S : Int) < (m.length : Int)) = false := by rw [decide_eq_false_iff_not]; omega
            go_wp2_with fail
            refine over_lit (by kernel_rfl) (by kernel_rfl) ?_
            repeat (go_big_quiet_step ((go_at_call 16; exact over_call (pair_any _))))
            refine wpQuiet_nil ?_
            rintro _ ⟨nq2, rfl⟩
            go_wp2_with fail
            go_ret
            refine ⟨rfl, ?_⟩
            exact up_call (below_drewN HUA.out _) (over_below _ _)
        · have g3 : decide ((P : Int) + (S : Int) < (l.length : Int)) = false := by rw [decide_eq_false_iff_not]; omega
          go_wp2_with fail
          refine over_lit (by kernel_rfl) (by kernel_rfl) ?_
          repeat (go_big_quiet_step ((go_at_call 16; exact over_call (pair_any _))))
          refine wpQuiet_nil ?_
          rintro _ ⟨nq2, rfl⟩
          go_wp2_with fail
          go_ret
          refine ⟨rfl, ?_⟩
          exact up_call (below_drewN HUA.out _) (over_below _ _)
      · have g2 : decide (P < m.length) = false := by simpa using a2
        have hS0 : S = 0 := by omega
        have g4 : decide ((P : Int) + (S : Int) < (m.length : Int)) = false := by rw [decide_eq_false_iff_not]; omega
        have g3 : decide ((P : Int) + (S : Int) < (l.length : Int)) = true := by rw [decide_eq_true_iff]; omega
        have b7 : (P : Int) < (l.length : Int) := by omega
        have HS0 := Lib.hid hS0
        clear hS0
        go_wp2_with fail
        go_quiet (fail)
        go_wp2_with fail
        refine over_lit (by kernel_rfl) (by kernel_rfl) ?_
        repeat (go_big_quiet_step ((go_at_call 16; exact over_call (pair_any _))))
        refine wpQuiet_nil ?_
        rintro _ ⟨nq2, rfl⟩
        go_wp2_with fail
        go_ret
        refine ⟨rfl, ?_⟩
        exact up_call (below_drewN HUA.out _) (over_below _ _)
    · have g1 : decide (P < l.length) = false := by simpa using a1
      have g3 : decide ((P : Int) + (S : Int) < (l.length : Int)) = false := by rw [decide_eq_false_iff_not]; omega
      go_wp2_with fail
      go_quiet (fail)
      go_wp2_with fail
      refine over_lit (by kernel_rfl) (by kernel_rfl) ?_
      repeat (go_big_quiet_step ((go_at_call 16; exact over_call (pair_any _))))
      refine wpQuiet_nil ?_
      rintro _ ⟨nq2, rfl⟩
      go_wp2_with fail
      go_ret
      refine ⟨rfl, ?_⟩
      exact up_call (below_drewN HUA.out _) (over_below _ _)
  · obtain ⟨hP, hS⟩ := c_bad h1
    have g1 : (tC l m != 0) = true := by simpa using h1
    have F1 := (Flt.new w1 (tC l m) (tI l m) 24).up hb2
    obtain ⟨a0, a1, -, -, a4⟩ := F1
    have u2 := up_call (up_alloc u1 (.cells #[.int .i64 (tC l m), .int .i64 (tI l m)] 24 (0, 0))) hb2
    rw [hP, hS]
    clear h1 hP hS hb2 u1
    go_wp2_with fail
    refine (pair_any _).mono ?_
    rintro e w7 ⟨rfl, hb7⟩
    go_wp2_with fail
    go_ret
    refine ⟨rfl, ?_⟩
    exact up_call (up_alloc u2 _) hb7
end Go.Proofs.Ytnjhnejebemflaa
