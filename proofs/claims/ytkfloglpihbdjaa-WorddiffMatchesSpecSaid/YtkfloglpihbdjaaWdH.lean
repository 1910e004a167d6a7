
/-
  The reference's kinds of bytes and tokens of a line; One; Pairs; walked.
-/
import Derived.Test.YtkfloglpihbdjaaWdD
import Derived.ChangeKeysEq
namespace Go.Proofs.Ytkfloglpihbdjaa
open Go.RowKit
set_option maxRecDepth 4000

/-- the reference's kinds: 0 word, 1 space, 2 other -/
def rkd (n : Nat) : Nat := 2 - Wd.kd n
set_option maxHeartbeats 4000000 in
theorem refKind_any (n : Nat) (w : World) : Calls Try.prog 26 #[.int .u8 (n : Int)] w (QPost (.int .i64 (rkd n : Nat)) w) := by
  have h : (97 ≤ n ∧ n ≤ 122) ∨ (65 ≤ n ∧ n ≤ 90) ∨ (48 ≤ n ∧ n ≤ 57) ∨ n = 95 ∨ 128 ≤ n ∨ n = 32 ∨ n = 9 ∨
      (n < 48 ∧ n ≠ 32 ∧ n ≠ 9) ∨ (57 < n ∧ n < 65) ∨ (90 < n ∧ n < 97 ∧ n ≠ 95) ∨ (122 < n ∧ n < 128) := by omega
  rcases h with h | h | h | h | h | h | h | h | h | h | h
  case' inl => have E := Lib.hid (kd_word (n := n) (by omega))
  case' inr.inl => have E := Lib.hid (kd_word (n := n) (by omega))
  case' inr.inr.inl => have E := Lib.hid (kd_word (n := n) (by omega))
  case' inr.inr.inr.inl => have E := Lib.hid (kd_word (n := n) (by omega))
  case' inr.inr.inr.inr.inl => have E := Lib.hid (kd_word (n := n) (by omega))
  case' inr.inr.inr.inr.inr.inl => have E := Lib.hid (kd_blank (n := n) (by omega))
  case' inr.inr.inr.inr.inr.inr.inl => have E := Lib.hid (kd_blank (n := n) (by omega))
  case' inr.inr.inr.inr.inr.inr.inr.inl => have E := Lib.hid (kd_other (n := n) (by omega) (by omega))
  case' inr.inr.inr.inr.inr.inr.inr.inr.inl => have E := Lib.hid (kd_other (n := n) (by omega) (by omega))
  case' inr.inr.inr.inr.inr.inr.inr.inr.inr.inl => have E := Lib.hid (kd_other (n := n) (by omega) (by omega))
  case' inr.inr.inr.inr.inr.inr.inr.inr.inr.inr => have E := Lib.hid (kd_other (n := n) (by omega) (by omega))
  all_goals
    first | (have g1 : decide ((97 : Int) ≤ (n : Int)) = true := by rw [decide_eq_true_iff]; omega) | (have g1 : decide ((97 : Int) ≤ (n : Int)) = false := by rw [decide_eq_false_iff_not]; omega)
    first | (have g2 : decide ((n : Int) ≤ 122) = true := by rw [decide_eq_true_iff]; omega) | (have g2 : decide ((n : Int) ≤ 122) = false := by rw [decide_eq_false_iff_not]; omega)
    first | (have g3 : decide ((65 : Int) ≤ (n : Int)) = true := by rw [decide_eq_true_iff]; omega) | (have g3 : decide ((65 : Int) ≤ (n : Int)) = false := by rw [decide_eq_false_iff_not]; omega)
    first | (have g4 : decide ((n : Int) ≤ 90) = true := by rw [decide_eq_true_iff]; omega) | (have g4 : decide ((n : Int) ≤ 90) = false := by rw [decide_eq_false_iff_not]; omega)
    first | (have g5 : decide ((48 : Int) ≤ (n : Int)) = true := by rw [decide_eq_true_iff]; omega) | (have g5 : decide ((48 : Int) ≤ (n : Int)) = false := by rw [decide_eq_false_iff_not]; omega)
    first | (have g6 : decide ((n : Int) ≤ 57) = true := by rw [decide_eq_true_iff]; omega) | (have g6 : decide ((n : Int) ≤ 57) = false := by rw [decide_eq_false_iff_not]; omega)
    first | (have g7 : ((n : Int) == 95) = true := by rw [beq_iff_eq]; omega) | (have g7 : ((n : Int) == 95) = false := by rw [beq_eq_false_iff_ne]; omega)
    first | (have g8 : decide ((127 : Int) < (n : Int)) = true := by rw [decide_eq_true_iff]; omega) | (have g8 : decide ((127 : Int) < (n : Int)) = false := by rw [decide_eq_false_iff_not]; omega)
    first | (have g9 : ((n : Int) == 32) = true := by rw [beq_iff_eq]; omega) | (have g9 : ((n : Int) == 32) = false := by rw [beq_eq_false_iff_ne]; omega)
    first | (have g10 : ((n : Int) == 9) = true := by rw [beq_iff_eq]; omega) | (have g10 : ((n : Int) == 9) = false := by rw [beq_eq_false_iff_ne]; omega)
    clear h
    go_enter Try.func26, Try.ntmps26
    go_wp2_with fail
    go_returns
    exact ⟨by unfold rkd; rw [E.out]; rfl, 0, rfl⟩

theorem refOne_any (s : ByteArray) (w : World) (hs : s.size ≤ 140737488351232) : Calls Try.prog 10 #[.string s] w (BPost (.int .i64 (Lin.lc s)) w) := by
  have ST := Lib.hid (sts_one w _ s rfl hs)
  go_enter Try.func10, Try.ntmps10
  go_wp2_with fail
  have LC := linesCode_any (some ⟨w.heap.size, 0, none⟩) [s] 1 1 _ rfl ST.out
  rw [vC_one] at LC
  refine LC.mono ?_
  rintro e w1 ⟨rfl, hb1⟩
  have B := Lib.hid (up_call (up_alloc (Below.refl w.heap.size w) (.cells #[.string s] 9 (0, 0))) hb1)
  clear hb1
  go_wp2_with fail
  go_ret
  exact ⟨rfl, B.out⟩

theorem int_equal (d : Nat) (x u : Int) (w : World) : (Op.equalIn (d + 1) 3 (.int .i64 x) (.int .i64 u)).run Try.prog w = .ok (x == u) w := by
  simp [Op.equalIn, run_underlying Try.underlying3]
/-- two pairs of numbers, compared -/
theorem pr_equal (x y u v : Int) (w : World) : (Op.equal 61 (.agg #[.int .i64 x, .int .i64 y]) (.agg #[.int .i64 u, .int .i64 v])).run Try.prog w = .ok (x == u && y == v) w := by
  obtain ⟨i0, hi, -⟩ := info_parts infoI
  have hc : Try.prog.cellsOf 3 = 1 := by kernel_rfl
  have p0 : ∀ (a b : Int) (W : World), (part 3 #[.int .i64 a, .int .i64 b] (0 * 1)).run Try.prog W = .ok (.int .i64 a) W := fun a b W => by kernel_rfl
  have p1 : ∀ (a b : Int) (W : World), (part 3 #[.int .i64 a, .int .i64 b] (1 * 1)).run Try.prog W = .ok (.int .i64 b) W := fun a b W => by kernel_rfl
  have q := int_equal 9998
  show (Op.equalIn 10000 61 _ _).run Try.prog w = _
  rw [run_equalIn_array w 9999 _ _ Try.underlying61 hi, hc]
  simp only [List.range, List.range.loop, Op.eqItems, Sem.run_bind, p0, Result.andThen_ok]
  rw [q x u w]
  simp only [Result.andThen_ok]
  cases h : (x == u)
  · simp
  · simp only [Bool.not_true, Bool.false_eq_true, if_false, Sem.run_bind, p1, Result.andThen_ok]
    rw [q y v w]
    cases h2 : (y == v) <;> simp
theorem pr_neq (x y u v : Int) (w : World) : (binOp .neq 61 (.agg #[.int .i64 x, .int .i64 y]) (.agg #[.int .i64 u, .int .i64 v])).run Try.prog w = .ok (.bool (!(x == u && y == v))) w := by
  simp only [binOp]
  simp [pr_equal x y u v]
/-- two rows of pairs are the same -/
def eqR (l m : List (Nat × Nat)) : Bool := decide (l = m)
set_option maxHeartbeats 4000000 in
theorem pairs_any (p q : Option Addr) (l m : List (Nat × Nat)) (n k cap cap' : Nat) (w : World) (hn : n = l.length) (hk : k = m.length) (hp : Row prE w p l) (hq : Row prE w q m) (hl : l.length ≤ 1000000) :
    Calls Try.prog 16 #[.slice p n cap, .slice q k cap'] w (QPost (.bool (eqR l m)) w) := by
  subst hn hk
  have HP := Lib.hid hp
  have HQ := Lib.hid hq
  have hpr := pr_neq
  clear hp hq
  by_cases hlen : l.length = m.length
  · have HL := Lib.hid hlen
    have g0 : ((l.length : Int) != (m.length : Int)) = false := by simp [hlen]
    have g0' : (l.length != m.length) = false := by simp [hlen]
    clear hlen
    go_enter Try.func16, Try.ntmps16
    go_wp2_with fail
    go_loopw [5] (fun i wr => ∃ (a n : Nat), a ≤ l.length ∧ i = .int .i64 a ∧ Hid (wr = w.drewN n) ∧ Hid (l.take a = m.take a)) (fun i _ => l.length - (intOf i).toNat)
    case atStart => exact ⟨0, 0, Nat.zero_le _, rfl, Lib.hid rfl, Lib.hid rfl⟩
    case round =>
      obtain ⟨a, n, ha, rfl, hw, hT⟩ := hrel
      have b7 : (0 : Int) ≤ (a : Int) := by omega
      by_cases hlt : a < l.length
      · have b8 : (a : Int) < (l.length : Int) := by omega
        have hlm : a < m.length := by have := HL.out; omega
        have b9 : (a : Int) < (m.length : Int) := by omega
        obtain ⟨b1, o1, rfl, hb1, c0, c1⟩ := pr_cell HP.out hlt
        obtain ⟨b2, o2, rfl, hb2, d0, d1⟩ := pr_cell HQ.out hlm
        replace c0 : wr.cell? ⟨b1, o1 + a * 2, none⟩ = some (.int .i64 (l[a].1 : Nat)) := by rw [hw.out]; exact c0
        replace c1 : wr.cell? ⟨b1, o1 + a * 2 + 1, none⟩ = some (.int .i64 (l[a].2 : Nat)) := by rw [hw.out]; exact c1
        replace d0 : wr.cell? ⟨b2, o2 + a * 2, none⟩ = some (.int .i64 (m[a].1 : Nat)) := by rw [hw.out]; exact d0
        replace d1 : wr.cell? ⟨b2, o2 + a * 2 + 1, none⟩ = some (.int .i64 (m[a].2 : Nat)) := by rw [hw.out]; exact d1
        have TE : Hid (l[a] = m[a] → l.take (a + 1) = m.take (a + 1)) := Lib.hid (fun e => by rw [List.take_succ_eq_append_getElem hlt, List.take_succ_eq_append_getElem hlm, hT.out, e])
        have TN : Hid (l[a] ≠ m[a] → eqR l m = false) := Lib.hid (fun e => decide_eq_false (fun h => e (by simp [h])))
        obtain ⟨⟨x, y⟩, hx⟩ : ∃ x, x = l[a] := ⟨_, rfl⟩
        obtain ⟨⟨u, v⟩, hu⟩ : ∃ x, x = m[a] := ⟨_, rfl⟩
        rw [← hx] at c0 c1 TE TN
        rw [← hu] at d0 d1 TE TN
        dsimp only at c0 c1 d0 d1
        clear hx hu
        by_cases he : (x, y) = (u, v)
        · have E := Lib.hid (TE.out he)
          cases he
          go_wp2_with fail
          go_quiet (fail)
          go_wp2_with fail
          go_roundw
          case rel => exact ⟨a + 1, _, hlt, by go_num, Lib.hid (by rw [hw.out, World.drewN_drewN]), E⟩
          case measure => first | (simp [intOf]; done) | (simp [intOf]; omega)
        · have E := Lib.hid (TN.out he)
          have hor : x ≠ u ∨ x = u ∧ y ≠ v := by
            by_cases h : x = u
            · exact .inr ⟨h, fun e => he (by rw [h, e])⟩
            · exact .inl h
          clear he
          rcases hor with h1 | ⟨rfl, h1⟩
          case' inl =>
            have g1 : ((x : Int) == (u : Int)) = false := by rw [beq_eq_false_iff_ne]; omega
            have g2 : (x == u) = false := by rw [beq_eq_false_iff_ne]; exact h1
          case' inr =>
            have g1 : ((y : Int) == (v : Int)) = false := by rw [beq_eq_false_iff_ne]; omega
            have g2 : (y == v) = false := by rw [beq_eq_false_iff_ne]; exact h1
          all_goals
            go_wp2_with fail
            go_quiet (fail)
            go_wp2_with fail
            go_ret
            exact ⟨by rw [E.out]; rfl, _, by rw [hw.out, World.drewN_drewN]⟩
      · obtain rfl : a = l.length := by omega
        have E : Hid (eqR l m = true) := Lib.hid (decide_eq_true (by
          have := hT.out
          rw [List.take_length, HL.out, List.take_length] at this; exact this))
        go_wp2_with fail
        go_ret
        exact ⟨by rw [E.out]; rfl, n, hw.out⟩
  · have E : Hid (eqR l m = false) := Lib.hid (decide_eq_false (fun e => hlen (by rw [e])))
    have g0 : ((l.length : Int) != (m.length : Int)) = true := by simp; omega
    have g0' : (l.length != m.length) = true := by simp [hlen]
    have H := Lib.hid hlen
    clear hlen
    go_enter Try.func16, Try.ntmps16
    go_wp2_with fail
    go_ret
    exact ⟨by rw [E.out]; rfl, 0, rfl⟩
end Go.Proofs.Ytkfloglpihbdjaa
