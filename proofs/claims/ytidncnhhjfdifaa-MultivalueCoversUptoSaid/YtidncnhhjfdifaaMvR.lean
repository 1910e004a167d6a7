
/-
  The reference's Relation, walked.
-/
import Derived.Test.YtidncnhhjfdifaaMvL
namespace Go.Proofs.Ytidncnhhjfdifaa
open Go.RowKit
set_option maxRecDepth 4000
theorem ge_lt (x y : Int) : decide (y ≤ x) = !decide (x < y) := by
  by_cases h : x < y
  · rw [decide_eq_true h, decide_eq_false (by omega)]; rfl
  · rw [decide_eq_false h, decide_eq_true (by omega)]; rfl
set_option maxHeartbeats 2000000 in
theorem relation_any (p q : Option Addr) (a b : List Int) (cap cap' : Nat) (w : World) (hp : Row nE w p a) (hq : Row nE w q b) (hl : a.length = b.length) (hb : b.length ≤ 100) :
    Calls Try.prog 22 #[.slice p a.length cap, .slice q b.length cap'] w (QPost (.tuple #[.bool (Mv.cov a b), .bool (Mv.cov b a)]) w) := by
  have HP := Lib.hid hp
  have HQ := Lib.hid hq
  clear hp hq
  generalize hX : Mv.cov a b = X
  generalize hY : Mv.cov b a = Y
  have HX := Lib.hid hX
  have HY := Lib.hid hY
  have HL := Lib.hid hl
  clear hX hY
  generalize hn : b.length = n at hl hb ⊢
  subst hl
  have HN := Lib.hid hn
  clear hn
  go_enter Try.func22, Try.ntmps22
  go_wp2
  go_loopw [6, 7, 8] (fun av bv iv wr => ∃ (k m : Nat) (A B : Bool), k ≤ a.length ∧ iv = .int .i64 k ∧ av = .bool A ∧ bv = .bool B ∧ wr = w.drewN m ∧ Hid ((A && Mv.cov (a.drop k) (b.drop k)) = X) ∧ Hid ((B && Mv.cov (b.drop k) (a.drop k)) = Y)) (fun _ _ iv _ => a.length - (intOf iv).toNat)
  case atStart => exact ⟨0, 0, true, true, Nat.zero_le _, rfl, rfl, rfl, rfl, Lib.hid (by simpa using HX.out), Lib.hid (by simpa using HY.out)⟩
  case round =>
    obtain ⟨k, m, A, B, hk, rfl, rfl, rfl, hw, hA, hB⟩ := hrel
    have HW := Lib.hid hw
    clear hw
    have b0 : (0 : Int) ≤ (k : Int) := by omega
    by_cases hlt : k < a.length
    · have g1 : decide ((k : Int) < (a.length : Int)) = true := decide_eq_true (by omega)
      have g1' : decide (k < a.length) = true := decide_eq_true hlt
      have b8 : (k : Int) < (a.length : Int) := by omega
      have hlt' : k < b.length := by rw [HN.out]; exact hlt
      have wk : IntKind.i64.wrap ((k : Int) + 1) = (k : Int) + 1 := IntWalk.i64_in _ (by omega)
      obtain ⟨b1, o1, rfl, -, h1⟩ := HP.out.nat hlt
      obtain ⟨b2, o2, rfl, -, h2⟩ := HQ.out.nat hlt'
      have c1 : wr.cell? ⟨b1, o1 + k, none⟩ = some (.int .i64 (a[k]'hlt)) := by rw [HW.out, World.cell?_drewN, h1]
      have c2 : wr.cell? ⟨b2, o2 + k, none⟩ = some (.int .i64 (b[k]'hlt')) := by rw [HW.out, World.cell?_drewN, h2]
      have NA := hA.out
      have NB := hB.out
      rw [cov_next hlt hlt', ← ge_lt, ← Bool.and_assoc] at NA
      rw [cov_next hlt' hlt, ← ge_lt, ← Bool.and_assoc] at NB
      have HNA := Lib.hid NA
      have HNB := Lib.hid NB
      obtain ⟨x, hx⟩ : ∃ x, x = a[k]'hlt := ⟨_, rfl⟩
      obtain ⟨y, hy⟩ : ∃ y, y = b[k]'hlt' := ⟨_, rfl⟩
      rw [← hx] at c1
      rw [← hy] at c2
      rw [← hx, ← hy] at HNA HNB
      clear hx hy h1 h2 NA NB hA hB hlt'
      cases A with
      | true =>
        rw [Bool.true_and] at HNA
        cases B with
        | true =>
          rw [Bool.true_and] at HNB
          go_wp2_with fail
          go_quiet (fail)
          go_wp2_with fail
          go_quiet (fail)
          go_wp2_with fail
          go_roundw
          case rel => exact ⟨k + 1, _, _, _, by omega, by go_num, rfl, rfl, by rw [HW.out, World.drewN_drewN], HNA, HNB⟩
          case measure => simp [intOf]; omega
        | false =>
          rw [Bool.false_and] at HNB
          go_wp2_with fail
          go_quiet (fail)
          go_wp2_with fail
          go_quiet (fail)
          go_wp2_with fail
          go_roundw
          case rel => exact ⟨k + 1, _, _, _, by omega, by go_num, rfl, rfl, by rw [HW.out, World.drewN_drewN], HNA, HNB⟩
          case measure => simp [intOf]; omega
      | false =>
        rw [Bool.false_and] at HNA
        cases B with
        | true =>
          rw [Bool.true_and] at HNB
          go_wp2_with fail
          go_quiet (fail)
          go_wp2_with fail
          go_quiet (fail)
          go_wp2_with fail
          go_roundw
          case rel => exact ⟨k + 1, _, _, _, by omega, by go_num, rfl, rfl, by rw [HW.out, World.drewN_drewN], HNA, HNB⟩
          case measure => simp [intOf]; omega
        | false =>
          rw [Bool.false_and] at HNB
          go_wp2_with fail
          go_quiet (fail)
          go_wp2_with fail
          go_quiet (fail)
          go_wp2_with fail
          go_roundw
          case rel => exact ⟨k + 1, _, _, _, by omega, by go_num, rfl, rfl, by rw [HW.out, World.drewN_drewN], HNA, HNB⟩
          case measure => simp [intOf]; omega
    · have g1 : decide ((k : Int) < (a.length : Int)) = false := decide_eq_false (by omega)
      have g1' : decide (k < a.length) = false := decide_eq_false hlt
      have NA := hA.out
      have NB := hB.out
      rw [cov_end (by omega), Bool.and_true] at NA
      rw [cov_end (by rw [HN.out]; omega), Bool.and_true] at NB
      subst NA NB
      go_wp2_with fail
      refine bodyPost_ret (v := .tuple #[.bool A, .bool B]) (by simp [results, Try.results22, go_sem]) rfl ⟨rfl, m, HW.out⟩
end Go.Proofs.Ytidncnhhjfdifaa
