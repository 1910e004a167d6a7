
/-
  cmp.Compare, cmp.Or; comparing two elements.
-/
import Derived.Test.YtidncnhhjfdifaaSqA
import Derived.LoopN
namespace Go.Proofs.Ytidncnhhjfdifaa
open Go.RowKit
set_option maxRecDepth 4000

def cmp3 (a b : Int) : Int := if a < b then -1 else if b < a then 1 else 0
set_option maxRecDepth 100000 in
theorem isNaN_any (a : Int) (w : World) : Calls Try.prog 103 #[.int .i64 a] w fun e w' => e = .returned (.bool false) ∧ w' = w := by
  go_enter Try.func103, Try.ntmps103
  go_wp2_with fail
  go_returns
  simp
set_option maxRecDepth 100000 in
theorem compare_any (a b : Int) (w : World) : Calls Try.prog 73 #[.int .i64 a, .int .i64 b] w fun e w' => e = .returned (.int .i64 (cmp3 a b)) ∧ w' = w := by
  have h : a < b ∨ b < a ∨ a = b := by omega
  rcases h with h | h | h
  case' inl =>
    have g1 : decide (a < b) = true := decide_eq_true h
    have E : cmp3 a b = -1 := if_pos h
  case' inr.inl =>
    have g1 : decide (a < b) = false := decide_eq_false (by omega)
    have g2 : decide (b < a) = true := decide_eq_true h
    have E : cmp3 a b = 1 := by unfold cmp3; rw [if_neg (by omega), if_pos h]
  case' inr.inr =>
    have g1 : decide (a < b) = false := decide_eq_false (by omega)
    have g2 : decide (b < a) = false := decide_eq_false (by omega)
    have E : cmp3 a b = 0 := by unfold cmp3; rw [if_neg (by omega), if_neg (by omega)]
  all_goals
    clear h
    rw [E]
    clear E
    go_enter Try.func73, Try.ntmps73
    go_wp2_with (go_at_call 103; refine (isNaN_any _ _).mono ?_; rintro e w ⟨rfl, rfl⟩)
    go_returns
    exact ⟨rfl, rfl⟩
/-- two ints in a row: the first that is not nought -/
theorem or_any (a b : Int) (p cap : Nat) (w : World) (h0 : w.cell? ⟨p, 0, none⟩ = some (.int .i64 a)) (h1 : w.cell? ⟨p, 1, none⟩ = some (.int .i64 b)) :
    Calls Try.prog 82 #[.slice (some ⟨p, 0, none⟩) 2 cap] w fun e w' => e = .returned (.int .i64 (if a = 0 then b else a)) ∧ w' = w := by
  have h : a ≠ 0 ∨ (a = 0 ∧ b ≠ 0) ∨ (a = 0 ∧ b = 0) := by omega
  rcases h with h | ⟨rfl, h⟩ | ⟨rfl, rfl⟩
  · rw [if_neg h]
    have g1 : (a != 0) = true := by rw [bne_iff_ne]; exact h
    go_enter Try.func82, Try.ntmps82
    go_wp2_with fail
    refine wp_loop_rounds 1 ?_
    rw [rounds_succ]
    go_wp2_with fail
    go_returns
    exact ⟨rfl, rfl⟩
  · rw [if_pos rfl]
    have g1 : (b != 0) = true := by rw [bne_iff_ne]; exact h
    go_enter Try.func82, Try.ntmps82
    go_wp2_with fail
    refine wp_loop_rounds 2 ?_
    rw [rounds_succ]
    go_wp2_with fail
    rw [rounds_succ]
    go_wp2_with fail
    go_returns
    exact ⟨rfl, rfl⟩
  · rw [if_pos rfl]
    go_enter Try.func82, Try.ntmps82
    go_wp2_with fail
    refine wp_loop_rounds 3 ?_
    rw [rounds_succ]
    go_wp2_with fail
    rw [rounds_succ]
    go_wp2_with fail
    rw [rounds_succ]
    go_wp2_with fail
    go_returns
    exact ⟨rfl, rfl⟩
/-- what 'compareElements' hands back -/
def Sq.cmpE (x y : El) : Int := if cmp3 x.1 y.1 = 0 then cmp3 x.2 y.2 else cmp3 x.1 y.1
/-- the slots of its region -/
def ceS (g : Nat) (x1 x2 y1 y2 : Int) : Nat → Value → World → Prop
  | 0, v, _ => v = .pointer (some ⟨g, 0, none⟩)
  | 1, v, _ => v = .int .i64 x1
  | 2, v, _ => v = .pointer (some ⟨g + 1, 0, none⟩)
  | 3, v, _ => v = .int .i64 y1
  | 4, v, _ => v = .int .i64 (cmp3 x1 y1)
  | 5, v, _ => v = .pointer (some ⟨g, 1, none⟩)
  | 6, v, _ => v = .int .i64 x2
  | 7, v, _ => v = .pointer (some ⟨g + 1, 1, none⟩)
  | 8, v, _ => v = .int .i64 y2
  | 9, v, _ => v = .int .i64 (cmp3 x2 y2)
  | 10, v, w => ∃ b, v = .slice (some ⟨b, 0, none⟩) 2 2 ∧ w.cell? ⟨b, 0, none⟩ = some (.int .i64 (cmp3 x1 y1)) ∧ w.cell? ⟨b, 1, none⟩ = some (.int .i64 (cmp3 x2 y2))
  | 11, v, _ => v = .int .i64 (Sq.cmpE (x1, x2) (y1, y2))
  | _, _, _ => True
theorem ceS_stab {g : Nat} {x1 x2 y1 y2 : Int} {w w' : World} (hb : Below w.heap.size w w') : ∀ {j : Nat} {v : Value}, ceS g x1 x2 y1 y2 j v w → ceS g x1 x2 y1 y2 j v w'
  | 0, _, h | 1, _, h | 2, _, h | 3, _, h | 4, _, h | 5, _, h | 6, _, h | 7, _, h | 8, _, h | 9, _, h | 11, _, h => h
  | 10, _, ⟨b, h1, h2, h3⟩ => ⟨b, h1, (hb.cell (cell_block_lt h2)).trans h2, (hb.cell (cell_block_lt h3)).trans h3⟩
  | _ + 12, _, _ => trivial
set_option maxRecDepth 100000 in
theorem compareElements_g (x y : El) (w : World) : Calls Try.prog 83 #[elV x, elV y] w (GPost (.int .i64 (Sq.cmpE x y)) w) := by
  obtain ⟨x1, x2⟩ := x
  obtain ⟨y1, y2⟩ := y
  unfold elV
  dsimp only
  have up0 : Below w.heap.size w ((w.alloc (.cells #[.int .i64 x1, .int .i64 x2] 77 (0, 0))).alloc (.cells #[.int .i64 y1, .int .i64 y2] 77 (0, 0))) := up_alloc (up_alloc (Below.refl _ _) _) _
  have cX : ((w.alloc (.cells #[.int .i64 x1, .int .i64 x2] 77 (0, 0))).alloc (.cells #[.int .i64 y1, .int .i64 y2] 77 (0, 0))).heap.size = w.heap.size + 2 := by simp
  have FX := (Flt.new w x1 x2 77).alloc (.cells #[.int .i64 y1, .int .i64 y2] 77 (0, 0))
  have FY := Flt.new (w.alloc (.cells #[.int .i64 x1, .int .i64 x2] 77 (0, 0))) y1 y2 77
  rw [World.size_alloc] at FY
  go_enter Try.func83, Try.ntmps83
  go_wp2_with fail
  generalize hW : (w.alloc (.cells #[.int .i64 x1, .int .i64 x2] 77 (0, 0))).alloc (.cells #[.int .i64 y1, .int .i64 y2] 77 (0, 0)) = W at up0 cX FX FY ⊢
  refine region_facts (by kernel_rfl) (by kernel_rfl) (fun x => { tmps := #[.agg #[.int .i64 x1, .int .i64 x2], .agg #[.int .i64 y1, .int .i64 y2], .pointer (some ⟨w.heap.size, 0, none⟩), .pointer (some ⟨w.heap.size + 1, 0, none⟩), .int .i64 0,
    x 0, x 1, x 2, x 3, x 4, x 5, x 6, x 7, x 8, x 9, x 10, x 11], defers := [] }) (fun _ => undef) rfl (fun w' => Below W.heap.size W w' ∧ W.drawn ≤ w'.drawn) (ceS w.heap.size x1 x2 y1 y2) ⟨(Below.refl _ _).drew, Nat.le_succ _⟩ ?_ (by simp)
  have dr : W.drawn = w.drawn := by rw [← hW]; rfl
  rename_i KK hKK
  refine steps_cons ?_ (steps_cons ?_ (steps_cons ?_ (steps_cons ?_ (steps_cons ?_ (steps_cons ?_ (steps_cons ?_ (steps_cons ?_ (steps_cons ?_ (steps_cons ?_ (steps_cons ?_ (steps_cons ?_ (steps_last ?_))))))))))))
  · refine step_mk [] rfl rfl (fun _ _ => rfl) ?_
    intro x w1 hC hd K hK
    dsimp only at hK ⊢
    go_simp
    exact hK _ _ hC rfl (fun _ _ _ h => h)
  · refine step_mk [0] rfl rfl (fun _ _ => rfl) ?_
    intro x w1 hC hd K hK
    have e0 : x 0 = _ := hd 0 (by simp)
    have c0 := (FX.up hC.1).c0
    dsimp only at hK ⊢
    simp only [e0] at hK ⊢
    go_simp
    exact hK _ _ hC rfl (fun _ _ _ h => h)
  · refine step_mk [] rfl rfl (fun _ _ => rfl) ?_
    intro x w1 hC hd K hK
    dsimp only at hK ⊢
    go_simp
    exact hK _ _ hC rfl (fun _ _ _ h => h)
  · refine step_mk [2] rfl rfl (fun _ _ => rfl) ?_
    intro x w1 hC hd K hK
    have e2 : x 2 = _ := hd 2 (by simp)
    have c0 := (FY.up hC.1).c0
    dsimp only at hK ⊢
    simp only [e2] at hK ⊢
    go_simp
    exact hK _ _ hC rfl (fun _ _ _ h => h)
  · refine step_mk [1, 3] rfl rfl (fun _ _ => rfl) ?_
    intro x w1 hC hd K hK
    have e1 : x 1 = _ := hd 1 (by simp)
    have e3 : x 3 = _ := hd 3 (by simp)
    dsimp only at hK ⊢
    simp only [e1, e3] at hK ⊢
    go_simp
    refine (compare_any _ _ _).mono ?_
    rintro e w2 ⟨rfl, rfl⟩
    exact hK _ _ hC rfl (fun _ _ _ h => h)
  · refine step_mk [] rfl rfl (fun _ _ => rfl) ?_
    intro x w1 hC hd K hK
    dsimp only at hK ⊢
    go_simp
    exact hK _ _ hC rfl (fun _ _ _ h => h)
  · refine step_mk [5] rfl rfl (fun _ _ => rfl) ?_
    intro x w1 hC hd K hK
    have e5 : x 5 = _ := hd 5 (by simp)
    have c0 := (FX.up hC.1).c1
    dsimp only at hK ⊢
    simp only [e5] at hK ⊢
    go_simp
    exact hK _ _ hC rfl (fun _ _ _ h => h)
  · refine step_mk [] rfl rfl (fun _ _ => rfl) ?_
    intro x w1 hC hd K hK
    dsimp only at hK ⊢
    go_simp
    exact hK _ _ hC rfl (fun _ _ _ h => h)
  · refine step_mk [7] rfl rfl (fun _ _ => rfl) ?_
    intro x w1 hC hd K hK
    have e7 : x 7 = _ := hd 7 (by simp)
    have c0 := (FY.up hC.1).c1
    dsimp only at hK ⊢
    simp only [e7] at hK ⊢
    go_simp
    exact hK _ _ hC rfl (fun _ _ _ h => h)
  · refine step_mk [6, 8, 4] rfl rfl (fun _ _ => rfl) ?_
    intro x w1 hC hd K hK
    have e6 : x 6 = _ := hd 6 (by simp)
    have e8 : x 8 = _ := hd 8 (by simp)
    dsimp only at hK ⊢
    simp only [e6, e8] at hK ⊢
    go_simp
    refine (compare_any _ _ _).mono ?_
    rintro e w2 ⟨rfl, rfl⟩
    exact hK _ _ hC rfl (fun _ _ _ h => h)
  · refine step_mk [4, 9] rfl rfl (fun _ _ => rfl) ?_
    intro x w1 hC hd K hK
    have e4 : x 4 = _ := hd 4 (by simp)
    have e9 : x 9 = _ := hd 9 (by simp)
    dsimp only at hK ⊢
    simp only [e4, e9] at hK ⊢
    go_simp
    exact hK _ _ ⟨up_alloc hC.1 _, hC.2⟩ ⟨_, rfl, by simp, by simp⟩ (fun j u _ h => ceS_stab (up_alloc (Below.refl _ _) _) h)
  · refine step_mk [10, 9] rfl rfl (fun _ _ => rfl) ?_
    intro x w1 hC hd K hK
    obtain ⟨b, e10, h0, h1⟩ := hd 10 (by simp)
    dsimp only at hK ⊢
    simp only [e10] at hK ⊢
    go_simp
    refine (or_any _ _ _ _ _ h0 h1).mono ?_
    rintro e w2 ⟨rfl, rfl⟩
    exact hK _ _ hC rfl (fun _ _ _ h => h)
  · refine tail_mk rfl ?_
    intro x w1 hC hd K hK
    have e11 : x 11 = _ := hd 11 (by omega)
    dsimp only at hK ⊢
    simp only [e11] at hK ⊢
    go_simp
    refine hK _ _ ?_
    clear hK
    refine hKK _ _ ?_
    clear hKK
    go_wp2_with fail
    go_returns
    exact ⟨rfl, up_call up0 hC.1, dr ▸ hC.2⟩
theorem compareElements_any (x y : El) (w : World) : Calls Try.prog 83 #[elV x, elV y] w (BPost (.int .i64 (Sq.cmpE x y)) w) := of_g (compareElements_g x y w)
end Go.Proofs.Ytidncnhhjfdifaa
