
/-
  Package sequence: the code of the first error of an operation by itself.
-/
import Derived.Test.YtidncnhhjfdifaaSqC
import Derived.Test.YtidncnhhjfdifaaLinA
namespace Go.Proofs.Ytidncnhhjfdifaa
open Go.RowKit
set_option maxRecDepth 4000

/-- a deletion's code -/
def Sq.dC (o : Sq.O) : Int := if o.arep = 0 ∧ o.acnt = 0 ∧ o.line.toList = [] then 0 else 5
theorem dC_ok {o : Sq.O} (h1 : o.arep = 0) (h2 : o.acnt = 0) (h3 : o.line.toList = []) : Sq.dC o = 0 := if_pos ⟨h1, h2, h3⟩
theorem dC_no {o : Sq.O} (h : ¬(o.arep = 0 ∧ o.acnt = 0 ∧ o.line.toList = [])) : Sq.dC o = 5 := if_neg h
set_option maxRecDepth 100000 in
theorem deletionCode_any (o : Sq.O) (w : World) (hd : o.del = true) : Calls Try.prog 90 #[o.v] w (BPost (.int .i64 (Sq.dC o)) w) := by
  have up0 := boxO_up w o
  by_cases h1 : o.arep = 0
  · by_cases h2 : o.acnt = 0
    · by_cases h3 : o.line.toList = []
      · rw [dC_ok h1 h2 h3]
        obtain ⟨d, r, c, ar, ac, l⟩ := o
        dsimp only at *
        subst hd h1 h2
        unfold Sq.O.v
        unfold boxO at up0
        dsimp only at up0
        go_enter Try.func90, Try.ntmps90
        go_wp2_with fail
        go_returns
        exact ⟨rfl, up0⟩
      · rw [dC_no (fun h => h3 h.2.2)]
        obtain ⟨d, r, c, ar, ac, l⟩ := o
        dsimp only at *
        subst hd h1 h2
        unfold Sq.O.v
        unfold boxO at up0
        dsimp only at up0
        go_enter Try.func90, Try.ntmps90
        go_wp2_with fail
        go_returns
        exact ⟨rfl, up0⟩
    · rw [dC_no (fun h => h2 h.2.1)]
      obtain ⟨d, r, c, ar, ac, l⟩ := o
      dsimp only at *
      subst hd h1
      unfold Sq.O.v
      unfold boxO at up0
      dsimp only at up0
      go_enter Try.func90, Try.ntmps90
      go_wp2_with fail
      go_returns
      exact ⟨rfl, up0⟩
  · rw [dC_no (fun h => h1 h.1)]
    obtain ⟨d, r, c, ar, ac, l⟩ := o
    dsimp only at *
    subst hd
    unfold Sq.O.v
    unfold boxO at up0
    dsimp only at up0
    go_enter Try.func90, Try.ntmps90
    go_wp2_with fail
    go_returns
    exact ⟨rfl, up0⟩
/-- an insertion's code -/
def Sq.iC (o : Sq.O) : Int := if ¬(o.acnt = 0 ∧ o.arep = 0) ∧ Sq.inR o.pr = false then 3 else if 0 ≤ Sq.cmpE o.pr o.el then 5 else Lin.vC [o.line]
theorem iC_range {o : Sq.O} (h : ¬(o.acnt = 0 ∧ o.arep = 0)) (hr : Sq.inR o.pr = false) : Sq.iC o = 3 := if_pos ⟨h, hr⟩
theorem iC_order {o : Sq.O} (h : (o.acnt = 0 ∧ o.arep = 0) ∨ Sq.inR o.pr = true) (hc : 0 ≤ Sq.cmpE o.pr o.el) : Sq.iC o = 5 := by
  unfold Sq.iC
  rw [if_neg (by rintro ⟨a, b⟩; rcases h with h | h; exact a h; rw [h] at b; cases b), if_pos hc]
theorem iC_line {o : Sq.O} (h : (o.acnt = 0 ∧ o.arep = 0) ∨ Sq.inR o.pr = true) (hc : ¬ 0 ≤ Sq.cmpE o.pr o.el) : Sq.iC o = Lin.vC [o.line] := by
  unfold Sq.iC
  rw [if_neg (by rintro ⟨a, b⟩; rcases h with h | h; exact a h; rw [h] at b; cases b), if_neg hc]
theorem fieldF (a b : Int) (w : World) : (Instr.field 24 (.agg #[.int .i64 a, .int .i64 b]) 0).run Try.prog w = .ok (.int .i64 a) w := by kernel_rfl
def icS (o : Sq.O) : Nat → Value → World → Prop
  | 0, v, _ => v = .agg #[.int .i64 o.acnt, .int .i64 o.arep]
  | 1, v, _ => v = .agg #[.bool o.del, .int .i64 o.rep, .int .i64 o.cnt, .int .i64 o.arep, .int .i64 o.acnt, .string o.line]
  | 2, v, _ => v = .agg #[.int .i64 o.cnt, .int .i64 o.rep]
  | 3, v, _ => v = .int .i64 (Sq.cmpE o.pr o.el)
  | _, _, _ => True
theorem icS_stab {o : Sq.O} {w w' : World} (_ : Below w.heap.size w w') : ∀ {j : Nat} {v : Value}, icS o j v w → icS o j v w'
  | 0, _, h | 1, _, h | 2, _, h | 3, _, h => h
  | _ + 4, _, _ => trivial
set_option maxRecDepth 100000 in
set_option maxHeartbeats 4000000 in
theorem insertionCode_any (o : Sq.O) (w : World) (hl : o.line.size ≤ 140737488351232) : Calls Try.prog 91 #[o.v] w (BPost (.int .i64 (Sq.iC o)) w) := by
  have up0 := boxO_up w o
  have O0 := Lib.hid (OpB.new w o)
  obtain ⟨d, r, c, ar, ac, l⟩ := o
  have hz : (ac = 0 ∧ ar = 0) ∨ ¬ ac = 0 ∨ (ac = 0 ∧ ¬ ar = 0) := by omega
  dsimp only at hl
  generalize hv : Sq.iC ⟨d, r, c, ar, ac, l⟩ = cv
  have HV := Lib.hid hv
  clear hv
  rcases hz with ⟨z1, z2⟩ | hz
  · subst z1 z2
    have HO := Lib.hid (iC_order (o := ⟨d, r, c, 0, 0, l⟩) (.inl ⟨rfl, rfl⟩))
    have HL := Lib.hid (iC_line (o := ⟨d, r, c, 0, 0, l⟩) (.inl ⟨rfl, rfl⟩))
    unfold Sq.O.v
    unfold boxO at up0 O0
    dsimp only at up0 O0 ⊢
    go_enter Try.func91, Try.ntmps91
    go_wp2_with (first | (go_at_call 53; refine (show Calls Try.prog 53 _ _ (BPost (.agg #[.int .i64 0, .int .i64 0]) _) from predecessorOf_any ⟨d, r, c, 0, 0, l⟩ _).mono ?_; rintro e w2 ⟨rfl, hb⟩) | (go_at_call 89; refine (show Calls Try.prog 89 _ _ (BPost (.bool (Sq.inR (Sq.O.pr ⟨d, r, c, 0, 0, l⟩))) _) from inRange_any (0, 0) _).mono ?_; rintro e w3 ⟨rfl, hb3⟩; rw [hr]))
    have U := up_alloc (up_call up0 hb) (.cells #[.int .i64 0, .int .i64 0] 77 (0, 0))
    have OW := (O0.out.up hb).up (up_alloc (Below.refl _ _) (.cells #[.int .i64 0, .int .i64 0] 77 (0, 0)))
    have FW := Flt.new w2 0 0 77
    generalize hW : w2.alloc (.cells #[.int .i64 0, .int .i64 0] 77 (0, 0)) = W at U OW FW ⊢
    rename_i K1 hK1 K2 hK2
    refine region_facts (by kernel_rfl) (by kernel_rfl) (fun x => { tmps := #[.agg #[.bool d, .int .i64 r, .int .i64 c, .int .i64 0, .int .i64 0, .string l], .pointer (some ⟨w.heap.size, 0, none⟩), .int .i64 0, .pointer (some ⟨w2.heap.size, 0, none⟩), .agg #[.bool d, .int .i64 r, .int .i64 c, .int .i64 0, .int .i64 0, .string l], .agg #[.int .i64 0, .int .i64 0], .agg #[.int .i64 0, .int .i64 0], .agg #[.int .i64 0, .int .i64 0], .bool false, .bool false, undef, undef, undef, .bool false, x 0, x 1, x 2, x 3, undef, undef, undef, undef, undef, undef], defers := [] }) (fun _ => undef) rfl
      (fun w' => Below W.heap.size W w') (icS ⟨d, r, c, 0, 0, l⟩) (Below.refl _ _).drew ?_ (by simp)
    refine steps_cons ?_ (steps_cons ?_ (steps_cons ?_ (steps_cons ?_ (steps_last ?_))))
    · refine step_mk [] rfl rfl (fun _ _ => rfl) ?_
      intro x w1 hC hd K hK
      obtain ⟨c0, c1, _, _, _⟩ := FW.up hC
      dsimp only at hK ⊢
      go_simp
      exact hK _ _ hC rfl (fun _ _ _ h => h)
    · refine step_mk [] rfl rfl (fun _ _ => rfl) ?_
      intro x w1 hC hd K hK
      obtain ⟨c0, c1, c2, c3, c4, c5, _⟩ := OW.up hC
      dsimp only at hK ⊢
      go_simp
      exact hK _ _ hC rfl (fun _ _ _ h => h)
    · refine step_mk [1] rfl rfl (fun _ _ => rfl) ?_
      intro x w1 hC hd K hK
      have e1 : x 1 = _ := hd 1 (by simp)
      dsimp only at hK ⊢
      simp only [e1] at hK ⊢
      go_simp
      refine (elementOf_any ⟨d, r, c, 0, 0, l⟩ _).mono ?_
      rintro e w2 ⟨rfl, hb⟩
      exact hK _ _ (up_call hC hb) rfl (fun j u _ h => icS_stab hb h)
    · refine step_mk [0, 2, 2] rfl rfl (fun _ _ => rfl) ?_
      intro x w1 hC hd K hK
      have e0 : x 0 = _ := hd 0 (by simp)
      have e2 : x 2 = _ := hd 2 (by simp)
      dsimp only at hK ⊢
      simp only [e0, e2] at hK ⊢
      go_simp
      refine (compareElements_any (0, 0) (c, r) _).mono ?_
      rintro e w2 ⟨rfl, hb⟩
      exact hK _ _ (up_call hC hb) rfl (fun j u _ h => icS_stab hb h)
    · refine tail_mk rfl ?_
      intro x w1 hC hd K hK
      have e3 : x 3 = _ := hd 3 (by omega)
      dsimp only at hK ⊢
      simp only [e3] at hK ⊢
      go_simp
      refine hK _ _ ?_
      clear hK
      refine hK2 _ _ ?_
      clear hK2
      have c5 := (OW.up hC).c5
      by_cases hc : 0 ≤ Sq.cmpE (Sq.O.pr ⟨d, r, c, 0, 0, l⟩) (Sq.O.el ⟨d, r, c, 0, 0, l⟩)
      · have hv := HV.out
        rw [HO.out hc] at hv
        subst hv
        rw [decide_eq_true hc]
        go_wp2_with fail
        first | done | (go_returns; exact ⟨rfl, up_call U hC⟩)
      · have hv := HV.out
        rw [HL.out (by omega)] at hv
        subst hv
        rw [decide_eq_false hc]
        have hfd := fieldF
        go_wp2_with (go_at_call 35; refine (validate_any _ [l] 1 1 _ rfl (sts_one _ _ l rfl hl)).mono ?_; rintro e w5 ⟨rfl, hb5⟩)
        first | done | (go_returns; exact ⟨rfl, up_call (up_alloc (up_call U hC) _) hb5⟩) | trace_state
  · cases hr : Sq.inR (Sq.O.pr ⟨d, r, c, ar, ac, l⟩)
    · have hv := HV.out
      rw [iC_range (by dsimp only; omega) hr] at hv
      subst hv
      clear HV
      rcases hz with z1 | ⟨rfl, z2⟩
      · unfold Sq.O.v
        unfold boxO at up0 O0
        dsimp only at up0 O0 ⊢
        go_enter Try.func91, Try.ntmps91
        go_wp2_with (first | (go_at_call 53; refine (show Calls Try.prog 53 _ _ (BPost (.agg #[.int .i64 ac, .int .i64 ar]) _) from predecessorOf_any ⟨d, r, c, ar, ac, l⟩ _).mono ?_; rintro e w2 ⟨rfl, hb⟩) | (go_at_call 89; refine (show Calls Try.prog 89 _ _ (BPost (.bool (Sq.inR (Sq.O.pr ⟨d, r, c, ar, ac, l⟩))) _) from inRange_any (ac, ar) _).mono ?_; rintro e w3 ⟨rfl, hb3⟩; rw [hr]))
        go_returns
        exact ⟨rfl, up_call (up_alloc (up_call up0 hb) _) hb3⟩
      · unfold Sq.O.v
        unfold boxO at up0 O0
        dsimp only at up0 O0 ⊢
        go_enter Try.func91, Try.ntmps91
        go_wp2_with (first | (go_at_call 53; refine (show Calls Try.prog 53 _ _ (BPost (.agg #[.int .i64 0, .int .i64 ar]) _) from predecessorOf_any ⟨d, r, c, ar, 0, l⟩ _).mono ?_; rintro e w2 ⟨rfl, hb⟩) | (go_at_call 89; refine (show Calls Try.prog 89 _ _ (BPost (.bool (Sq.inR (Sq.O.pr ⟨d, r, c, ar, 0, l⟩))) _) from inRange_any (0, ar) _).mono ?_; rintro e w3 ⟨rfl, hb3⟩; rw [hr]))
        go_returns
        exact ⟨rfl, up_call (up_alloc (up_call up0 hb) _) hb3⟩
    · have HO := Lib.hid (iC_order (o := ⟨d, r, c, ar, ac, l⟩) (.inr hr))
      have HL := Lib.hid (iC_line (o := ⟨d, r, c, ar, ac, l⟩) (.inr hr))
      rcases hz with z1 | ⟨rfl, z2⟩
      · unfold Sq.O.v
        unfold boxO at up0 O0
        dsimp only at up0 O0 ⊢
        go_enter Try.func91, Try.ntmps91
        go_wp2_with (first | (go_at_call 53; refine (show Calls Try.prog 53 _ _ (BPost (.agg #[.int .i64 ac, .int .i64 ar]) _) from predecessorOf_any ⟨d, r, c, ar, ac, l⟩ _).mono ?_; rintro e w2 ⟨rfl, hb⟩) | (go_at_call 89; refine (show Calls Try.prog 89 _ _ (BPost (.bool (Sq.inR (Sq.O.pr ⟨d, r, c, ar, ac, l⟩))) _) from inRange_any (ac, ar) _).mono ?_; rintro e w3 ⟨rfl, hb3⟩; rw [hr]))
        have U := up_call (up_alloc (up_call up0 hb) (.cells #[.int .i64 ac, .int .i64 ar] 77 (0, 0))) hb3
        have OW := ((O0.out.up hb).up (up_alloc (Below.refl _ _) (.cells #[.int .i64 ac, .int .i64 ar] 77 (0, 0)))).up hb3
        have FW := (Flt.new w2 ac ar 77).up hb3
        obtain ⟨W, hW⟩ : ∃ W, W = w3 := ⟨_, rfl⟩
        rw [← hW] at U OW FW ⊢
        rename_i K1 hK1 K2 hK2
        refine region_facts (by kernel_rfl) (by kernel_rfl) (fun x => { tmps := #[.agg #[.bool d, .int .i64 r, .int .i64 c, .int .i64 ar, .int .i64 ac, .string l], .pointer (some ⟨w.heap.size, 0, none⟩), .int .i64 0, .pointer (some ⟨w2.heap.size, 0, none⟩), .agg #[.bool d, .int .i64 r, .int .i64 c, .int .i64 ar, .int .i64 ac, .string l], .agg #[.int .i64 ac, .int .i64 ar], .agg #[.int .i64 ac, .int .i64 ar], .agg #[.int .i64 0, .int .i64 0], .bool true, .bool true, .agg #[.int .i64 ac, .int .i64 ar], .bool true, .bool false, .bool false, x 0, x 1, x 2, x 3, undef, undef, undef, undef, undef, undef], defers := [] }) (fun _ => undef) rfl
          (fun w' => Below W.heap.size W w') (icS ⟨d, r, c, ar, ac, l⟩) (Below.refl _ _).drew ?_ (by simp)
        refine steps_cons ?_ (steps_cons ?_ (steps_cons ?_ (steps_cons ?_ (steps_last ?_))))
        · refine step_mk [] rfl rfl (fun _ _ => rfl) ?_
          intro x w1 hC hd K hK
          obtain ⟨c0, c1, _, _, _⟩ := FW.up hC
          dsimp only at hK ⊢
          go_simp
          exact hK _ _ hC rfl (fun _ _ _ h => h)
        · refine step_mk [] rfl rfl (fun _ _ => rfl) ?_
          intro x w1 hC hd K hK
          obtain ⟨c0, c1, c2, c3, c4, c5, _⟩ := OW.up hC
          dsimp only at hK ⊢
          go_simp
          exact hK _ _ hC rfl (fun _ _ _ h => h)
        · refine step_mk [1] rfl rfl (fun _ _ => rfl) ?_
          intro x w1 hC hd K hK
          have e1 : x 1 = _ := hd 1 (by simp)
          dsimp only at hK ⊢
          simp only [e1] at hK ⊢
          go_simp
          refine (elementOf_any ⟨d, r, c, ar, ac, l⟩ _).mono ?_
          rintro e w2 ⟨rfl, hb⟩
          exact hK _ _ (up_call hC hb) rfl (fun j u _ h => icS_stab hb h)
        · refine step_mk [0, 2, 2] rfl rfl (fun _ _ => rfl) ?_
          intro x w1 hC hd K hK
          have e0 : x 0 = _ := hd 0 (by simp)
          have e2 : x 2 = _ := hd 2 (by simp)
          dsimp only at hK ⊢
          simp only [e0, e2] at hK ⊢
          go_simp
          refine (compareElements_any (ac, ar) (c, r) _).mono ?_
          rintro e w2 ⟨rfl, hb⟩
          exact hK _ _ (up_call hC hb) rfl (fun j u _ h => icS_stab hb h)
        · refine tail_mk rfl ?_
          intro x w1 hC hd K hK
          have e3 : x 3 = _ := hd 3 (by omega)
          dsimp only at hK ⊢
          simp only [e3] at hK ⊢
          go_simp
          refine hK _ _ ?_
          clear hK
          refine hK2 _ _ ?_
          clear hK2
          have c5 := (OW.up hC).c5
          by_cases hc : 0 ≤ Sq.cmpE (Sq.O.pr ⟨d, r, c, ar, ac, l⟩) (Sq.O.el ⟨d, r, c, ar, ac, l⟩)
          · have hv := HV.out
            rw [HO.out hc] at hv
            subst hv
            rw [decide_eq_true hc]
            go_wp2_with fail
            first | done | (go_returns; exact ⟨rfl, up_call U hC⟩)
          · have hv := HV.out
            rw [HL.out (by omega)] at hv
            subst hv
            rw [decide_eq_false hc]
            have hfd := fieldF
            go_wp2_with (go_at_call 35; refine (validate_any _ [l] 1 1 _ rfl (sts_one _ _ l rfl hl)).mono ?_; rintro e w5 ⟨rfl, hb5⟩)
            first | done | (go_returns; exact ⟨rfl, up_call (up_alloc (up_call U hC) _) hb5⟩) | trace_state
      · unfold Sq.O.v
        unfold boxO at up0 O0
        dsimp only at up0 O0 ⊢
        go_enter Try.func91, Try.ntmps91
        go_wp2_with (first | (go_at_call 53; refine (show Calls Try.prog 53 _ _ (BPost (.agg #[.int .i64 0, .int .i64 ar]) _) from predecessorOf_any ⟨d, r, c, ar, 0, l⟩ _).mono ?_; rintro e w2 ⟨rfl, hb⟩) | (go_at_call 89; refine (show Calls Try.prog 89 _ _ (BPost (.bool (Sq.inR (Sq.O.pr ⟨d, r, c, ar, 0, l⟩))) _) from inRange_any (0, ar) _).mono ?_; rintro e w3 ⟨rfl, hb3⟩; rw [hr]))
        have U := up_call (up_alloc (up_call up0 hb) (.cells #[.int .i64 0, .int .i64 ar] 77 (0, 0))) hb3
        have OW := ((O0.out.up hb).up (up_alloc (Below.refl _ _) (.cells #[.int .i64 0, .int .i64 ar] 77 (0, 0)))).up hb3
        have FW := (Flt.new w2 0 ar 77).up hb3
        obtain ⟨W, hW⟩ : ∃ W, W = w3 := ⟨_, rfl⟩
        rw [← hW] at U OW FW ⊢
        rename_i K1 hK1 K2 hK2
        refine region_facts (by kernel_rfl) (by kernel_rfl) (fun x => { tmps := #[.agg #[.bool d, .int .i64 r, .int .i64 c, .int .i64 ar, .int .i64 0, .string l], .pointer (some ⟨w.heap.size, 0, none⟩), .int .i64 0, .pointer (some ⟨w2.heap.size, 0, none⟩), .agg #[.bool d, .int .i64 r, .int .i64 c, .int .i64 ar, .int .i64 0, .string l], .agg #[.int .i64 0, .int .i64 ar], .agg #[.int .i64 0, .int .i64 ar], .agg #[.int .i64 0, .int .i64 0], .bool true, .bool true, .agg #[.int .i64 0, .int .i64 ar], .bool true, .bool false, .bool false, x 0, x 1, x 2, x 3, undef, undef, undef, undef, undef, undef], defers := [] }) (fun _ => undef) rfl
          (fun w' => Below W.heap.size W w') (icS ⟨d, r, c, ar, 0, l⟩) (Below.refl _ _).drew ?_ (by simp)
        refine steps_cons ?_ (steps_cons ?_ (steps_cons ?_ (steps_cons ?_ (steps_last ?_))))
        · refine step_mk [] rfl rfl (fun _ _ => rfl) ?_
          intro x w1 hC hd K hK
          obtain ⟨c0, c1, _, _, _⟩ := FW.up hC
          dsimp only at hK ⊢
          go_simp
          exact hK _ _ hC rfl (fun _ _ _ h => h)
        · refine step_mk [] rfl rfl (fun _ _ => rfl) ?_
          intro x w1 hC hd K hK
          obtain ⟨c0, c1, c2, c3, c4, c5, _⟩ := OW.up hC
          dsimp only at hK ⊢
          go_simp
          exact hK _ _ hC rfl (fun _ _ _ h => h)
        · refine step_mk [1] rfl rfl (fun _ _ => rfl) ?_
          intro x w1 hC hd K hK
          have e1 : x 1 = _ := hd 1 (by simp)
          dsimp only at hK ⊢
          simp only [e1] at hK ⊢
          go_simp
          refine (elementOf_any ⟨d, r, c, ar, 0, l⟩ _).mono ?_
          rintro e w2 ⟨rfl, hb⟩
          exact hK _ _ (up_call hC hb) rfl (fun j u _ h => icS_stab hb h)
        · refine step_mk [0, 2, 2] rfl rfl (fun _ _ => rfl) ?_
          intro x w1 hC hd K hK
          have e0 : x 0 = _ := hd 0 (by simp)
          have e2 : x 2 = _ := hd 2 (by simp)
          dsimp only at hK ⊢
          simp only [e0, e2] at hK ⊢
          go_simp
          refine (compareElements_any (0, ar) (c, r) _).mono ?_
          rintro e w2 ⟨rfl, hb⟩
          exact hK _ _ (up_call hC hb) rfl (fun j u _ h => icS_stab hb h)
        · refine tail_mk rfl ?_
          intro x w1 hC hd K hK
          have e3 : x 3 = _ := hd 3 (by omega)
          dsimp only at hK ⊢
          simp only [e3] at hK ⊢
          go_simp
          refine hK _ _ ?_
          clear hK
          refine hK2 _ _ ?_
          clear hK2
          have c5 := (OW.up hC).c5
          by_cases hc : 0 ≤ Sq.cmpE (Sq.O.pr ⟨d, r, c, ar, 0, l⟩) (Sq.O.el ⟨d, r, c, ar, 0, l⟩)
          · have hv := HV.out
            rw [HO.out hc] at hv
            subst hv
            rw [decide_eq_true hc]
            go_wp2_with fail
            first | done | (go_returns; exact ⟨rfl, up_call U hC⟩)
          · have hv := HV.out
            rw [HL.out (by omega)] at hv
            subst hv
            rw [decide_eq_false hc]
            have hfd := fieldF
            go_wp2_with (go_at_call 35; refine (validate_any _ [l] 1 1 _ rfl (sts_one _ _ l rfl hl)).mono ?_; rintro e w5 ⟨rfl, hb5⟩)
            first | done | (go_returns; exact ⟨rfl, up_call (up_alloc (up_call U hC) _) hb5⟩) | trace_state
end Go.Proofs.Ytidncnhhjfdifaa
