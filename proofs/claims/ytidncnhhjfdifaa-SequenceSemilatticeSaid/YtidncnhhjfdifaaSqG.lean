
/-
  Package sequence: the comparison of operations.
-/
import Derived.Test.YtidncnhhjfdifaaSqC
namespace Go.Proofs.Ytidncnhhjfdifaa
open Go.RowKit
set_option maxRecDepth 4000

/-- how operations are ordered -/
def Sq.cmpO (p q : Sq.O) : Int := if Sq.cmpE p.el q.el = 0 then cmp3 p.kd q.kd else Sq.cmpE p.el q.el
def coS (p q : Sq.O) : Nat → Value → World → Prop
  | 0, v, _ => v = .agg #[.bool p.del, .int .i64 p.rep, .int .i64 p.cnt, .int .i64 p.arep, .int .i64 p.acnt, .string p.line]
  | 1, v, _ => v = elV p.el
  | 2, v, _ => v = .agg #[.bool q.del, .int .i64 q.rep, .int .i64 q.cnt, .int .i64 q.arep, .int .i64 q.acnt, .string q.line]
  | 3, v, _ => v = elV q.el
  | 4, v, _ => v = .int .i64 (Sq.cmpE p.el q.el)
  | 5, v, _ => v = .agg #[.bool p.del, .int .i64 p.rep, .int .i64 p.cnt, .int .i64 p.arep, .int .i64 p.acnt, .string p.line]
  | 6, v, _ => v = .int .i64 p.kd
  | 7, v, _ => v = .agg #[.bool q.del, .int .i64 q.rep, .int .i64 q.cnt, .int .i64 q.arep, .int .i64 q.acnt, .string q.line]
  | 8, v, _ => v = .int .i64 q.kd
  | 9, v, _ => v = .int .i64 (cmp3 p.kd q.kd)
  | 10, v, w => ∃ b, v = .slice (some ⟨b, 0, none⟩) 2 2 ∧ w.cell? ⟨b, 0, none⟩ = some (.int .i64 (Sq.cmpE p.el q.el)) ∧ w.cell? ⟨b, 1, none⟩ = some (.int .i64 (cmp3 p.kd q.kd))
  | 11, v, _ => v = .int .i64 (Sq.cmpO p q)
  | _, _, _ => True
theorem coS_stab {p q : Sq.O} {w w' : World} (hb : Below w.heap.size w w') : ∀ {j : Nat} {v : Value}, coS p q j v w → coS p q j v w'
  | 0, _, h | 1, _, h | 2, _, h | 3, _, h | 4, _, h | 5, _, h | 6, _, h | 7, _, h | 8, _, h | 9, _, h | 11, _, h => h
  | 10, _, ⟨b, h1, h2, h3⟩ => ⟨b, h1, (hb.cell (cell_block_lt h2)).trans h2, (hb.cell (cell_block_lt h3)).trans h3⟩
  | _ + 12, _, _ => trivial
theorem up_d {W w w' : World} (h : Below W.heap.size W w ∧ W.drawn ≤ w.drawn) (hb : Below w.heap.size w w' ∧ w.drawn ≤ w'.drawn) : Below W.heap.size W w' ∧ W.drawn ≤ w'.drawn := ⟨up_call h.1 hb.1, Nat.le_trans h.2 hb.2⟩
set_option maxRecDepth 100000 in
theorem cmpOps_g (p q : Sq.O) (w : World) : Calls Try.prog 81 #[p.v, q.v] w (GPost (.int .i64 (Sq.cmpO p q)) w) := by
  have up0 : Below w.heap.size w (boxO (boxO w p) q) := up_call (boxO_up w p) (boxO_up _ q)
  have OP := (OpB.new w p).up (boxO_up (boxO w p) q)
  have OQ : OpB (boxO (boxO w p) q) (w.heap.size + 1) q := by
    have := OpB.new (boxO w p) q
    rwa [show (boxO w p).heap.size = w.heap.size + 1 from World.size_alloc _ _] at this
  have dr : (boxO (boxO w p) q).drawn = w.drawn := rfl
  unfold boxO at up0 OP OQ dr
  unfold Sq.O.v
  go_enter Try.func81, Try.ntmps81
  go_wp2_with fail
  generalize hW : (w.alloc (.cells #[.bool p.del, .int .i64 p.rep, .int .i64 p.cnt, .int .i64 p.arep, .int .i64 p.acnt, .string p.line] 53 (0, 0))).alloc (.cells #[.bool q.del, .int .i64 q.rep, .int .i64 q.cnt, .int .i64 q.arep, .int .i64 q.acnt, .string q.line] 53 (0, 0)) = W at up0 OP OQ dr ⊢
  refine region_facts (by kernel_rfl) (by kernel_rfl) (fun x => { tmps := #[.agg #[.bool p.del, .int .i64 p.rep, .int .i64 p.cnt, .int .i64 p.arep, .int .i64 p.acnt, .string p.line], .agg #[.bool q.del, .int .i64 q.rep, .int .i64 q.cnt, .int .i64 q.arep, .int .i64 q.acnt, .string q.line], .pointer (some ⟨w.heap.size, 0, none⟩), .pointer (some ⟨w.heap.size + 1, 0, none⟩), .int .i64 0, x 0, x 1, x 2, x 3, x 4, x 5, x 6, x 7, x 8, x 9, x 10, x 11], defers := [] }) (fun _ => undef) rfl
    (fun w' => Below W.heap.size W w' ∧ W.drawn ≤ w'.drawn) (coS p q) ⟨(Below.refl _ _).drew, Nat.le_succ _⟩ ?_ (by simp)
  rename_i KK hKK
  refine steps_cons ?_ (steps_cons ?_ (steps_cons ?_ (steps_cons ?_ (steps_cons ?_ (steps_cons ?_ (steps_cons ?_ (steps_cons ?_ (steps_cons ?_ (steps_cons ?_ (steps_cons ?_ (steps_cons ?_ (steps_last ?_))))))))))))
  · refine step_mk [] rfl rfl (fun _ _ => rfl) ?_
    intro x w1 hC hd K hK
    obtain ⟨c0, c1, c2, c3, c4, c5, _⟩ := OP.up hC.1
    dsimp only at hK ⊢
    go_simp
    exact hK _ _ hC rfl (fun _ _ _ h => h)
  · refine step_mk [0] rfl rfl (fun _ _ => rfl) ?_
    intro x w1 hC hd K hK
    have e0 : x 0 = _ := hd 0 (by simp)
    dsimp only at hK ⊢
    simp only [e0] at hK ⊢
    go_simp
    refine (elementOf_g p _).mono ?_
    rintro e w2 ⟨rfl, hb⟩
    exact hK _ _ (up_d hC hb) rfl (fun j u _ h => coS_stab hb.1 h)
  · refine step_mk [] rfl rfl (fun _ _ => rfl) ?_
    intro x w1 hC hd K hK
    obtain ⟨c0, c1, c2, c3, c4, c5, _⟩ := OQ.up hC.1
    dsimp only at hK ⊢
    go_simp
    exact hK _ _ hC rfl (fun _ _ _ h => h)
  · refine step_mk [2, 1] rfl rfl (fun _ _ => rfl) ?_
    intro x w1 hC hd K hK
    have e2 : x 2 = _ := hd 2 (by simp)
    dsimp only at hK ⊢
    simp only [e2] at hK ⊢
    go_simp
    refine (elementOf_g q _).mono ?_
    rintro e w2 ⟨rfl, hb⟩
    exact hK _ _ (up_d hC hb) rfl (fun j u _ h => coS_stab hb.1 h)
  · refine step_mk [1, 3, 3] rfl rfl (fun _ _ => rfl) ?_
    intro x w1 hC hd K hK
    have e1 : x 1 = _ := hd 1 (by simp)
    have e3 : x 3 = _ := hd 3 (by simp)
    dsimp only at hK ⊢
    simp only [e1, e3] at hK ⊢
    go_simp
    refine (compareElements_g p.el q.el _).mono ?_
    rintro e w2 ⟨rfl, hb⟩
    exact hK _ _ (up_d hC hb) rfl (fun j u _ h => coS_stab hb.1 h)
  · refine step_mk [] rfl rfl (fun _ _ => rfl) ?_
    intro x w1 hC hd K hK
    obtain ⟨c0, c1, c2, c3, c4, c5, _⟩ := OP.up hC.1
    dsimp only at hK ⊢
    go_simp
    exact hK _ _ hC rfl (fun _ _ _ h => h)
  · refine step_mk [5, 4] rfl rfl (fun _ _ => rfl) ?_
    intro x w1 hC hd K hK
    have e5 : x 5 = _ := hd 5 (by simp)
    dsimp only at hK ⊢
    simp only [e5] at hK ⊢
    go_simp
    refine (kindOf_g p _).mono ?_
    rintro e w2 ⟨rfl, hb⟩
    exact hK _ _ (up_d hC hb) rfl (fun j u _ h => coS_stab hb.1 h)
  · refine step_mk [] rfl rfl (fun _ _ => rfl) ?_
    intro x w1 hC hd K hK
    obtain ⟨c0, c1, c2, c3, c4, c5, _⟩ := OQ.up hC.1
    dsimp only at hK ⊢
    go_simp
    exact hK _ _ hC rfl (fun _ _ _ h => h)
  · refine step_mk [7, 6] rfl rfl (fun _ _ => rfl) ?_
    intro x w1 hC hd K hK
    have e7 : x 7 = _ := hd 7 (by simp)
    dsimp only at hK ⊢
    simp only [e7] at hK ⊢
    go_simp
    refine (kindOf_g q _).mono ?_
    rintro e w2 ⟨rfl, hb⟩
    exact hK _ _ (up_d hC hb) rfl (fun j u _ h => coS_stab hb.1 h)
  · refine step_mk [6, 8, 8] rfl rfl (fun _ _ => rfl) ?_
    intro x w1 hC hd K hK
    have e6 : x 6 = _ := hd 6 (by simp)
    have e8 : x 8 = _ := hd 8 (by simp)
    dsimp only at hK ⊢
    simp only [e6, e8] at hK ⊢
    go_simp
    refine (compare_any _ _ _).mono ?_
    rintro e w2 ⟨rfl, rfl⟩
    exact hK _ _ hC rfl (fun _ _ _ h => h)
  · refine step_mk [4, 9] rfl rfl (fun _ _ => rfl) ?_
    intro x w1 hC hd K hK
    have e4 : x 4 = _ := hd 4 (by simp)
    have e9 : x 9 = _ := hd 9 (by simp)
    dsimp only at hK ⊢
    simp only [e4, e9] at hK ⊢
    go_simp
    exact hK _ _ (⟨up_alloc hC.1 _, hC.2⟩) ⟨_, rfl, by simp, by simp⟩ (fun j u _ h => coS_stab (up_alloc (Below.refl _ _) _) h)
  · refine step_mk [10, 9] rfl rfl (fun _ _ => rfl) ?_
    intro x w1 hC hd K hK
    obtain ⟨b, e10, h0, h1⟩ := hd 10 (by simp)
    dsimp only at hK ⊢
    simp only [e10] at hK ⊢
    go_simp
    refine (or_any _ _ _ _ _ h0 h1).mono ?_
    rintro e w2 ⟨rfl, rfl⟩
    exact hK _ _ hC rfl (fun _ _ _ h => h)
  · refine tail_mk rfl ?_
    intro x w1 hC hd K hK
    have e11 : x 11 = _ := hd 11 (by omega)
    dsimp only at hK ⊢
    simp only [e11] at hK ⊢
    go_simp
    refine hK _ _ ?_
    clear hK
    refine hKK _ _ ?_
    clear hKK
    go_wp2_with fail
    go_returns
    exact ⟨rfl, up_call up0 hC.1, dr ▸ hC.2⟩
end Go.Proofs.Ytidncnhhjfdifaa
