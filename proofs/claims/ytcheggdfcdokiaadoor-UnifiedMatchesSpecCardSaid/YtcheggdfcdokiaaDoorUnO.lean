
/-
  The reference's Number and shown, walked.
-/
import Derived.Test.YtcheggdfcdokiaaDoorUnN
import Derived.Lib.ItoaNum
import Derived.Test.YtcheggdfcdokiaaDoorOver
namespace Go.Proofs.YtcheggdfcdokiaaDoor
open Go.RowKit
set_option maxRecDepth 4000
set_option maxRecDepth 4000

theorem quiet_one {f : FuncId} {args : Array Value} {X : World} {a : Nat} {v : Value} (h : Calls Tryd.prog f args (X.drewN a) (QPost v (X.drewN a))) :
    Calls Tryd.prog f args (X.drewN a) fun e w'' => e = .returned v ∧ ∃ n, w'' = X.drewN n :=
  h.mono fun _ _ ⟨he, m, hm⟩ => ⟨he, a + m, by rw [hm, World.drewN_drewN]⟩
theorem dgx (n : Nat) (h : n < 10) : (⟨#[48, 49, 50, 51, 52, 53, 54, 55, 56, 57]⟩ : ByteArray).extract n (n + 1) = Lin.mk [UInt8.ofNat (48 + n)] := by
  obtain rfl | rfl | rfl | rfl | rfl | rfl | rfl | rfl | rfl | rfl : n = 0 ∨ n = 1 ∨ n = 2 ∨ n = 3 ∨ n = 4 ∨ n = 5 ∨ n = 6 ∨ n = 7 ∨ n = 8 ∨ n = 9 := by omega
  all_goals rfl
def dgS (n : Nat) : ByteArray := Lin.mk [UInt8.ofNat (48 + n)]
theorem dgs (n : Nat) (h : n < 10) (W : World) : (Instr.slice 9 (.string ⟨#[48, 49, 50, 51, 52, 53, 54, 55, 56, 57]⟩) (some (.int .i64 (n : Int))) (some (.int .i64 ((n : Int) + 1))) none).run Tryd.prog W = .ok (.string (dgS n)) W := by
  unfold dgS
  rw [← dgx n h, _root_.Go.run_slice_string (P := Tryd.prog) W 9 _ .i64 .i64 (n : Int) ((n : Int) + 1) Tryd.underlying9 (by omega) (by omega) (by show (n : Int) + 1 ≤ 10; omega)]
  rfl
theorem number_any (n : Nat) (hn : n < 1000) : ∀ w : World, Calls Tryd.prog 38 #[.int .i64 (n : Int)] w (QPost (.string (Lin.mk (Lib.decDigits n))) w) := by
  induction n using Nat.strongRecOn with
  | _ n ih =>
    intro w
    by_cases h : n < 10
    · have g0 : decide ((n : Int) < 10) = true := decide_eq_true (by omega)
      have b1 : (n : Int) ≤ 10 := by omega
      have b2 : (n : Int) + 1 ≤ 10 := by omega
      have S := dgs n h
      have D := Lib.hid (Lib.decDigits_one h)
      clear ih h
      go_enter Tryd.func38, Tryd.ntmps38
      go_wp2_with fail
      go_ret
      exact ⟨by rw [D.out]; rfl, 0, rfl⟩
    · have g0 : decide ((n : Int) < 10) = false := decide_eq_false (by omega)
      obtain ⟨q, hq⟩ : ∃ q, q = n / 10 := ⟨_, rfl⟩
      obtain ⟨r, hr⟩ : ∃ r, r = n % 10 := ⟨_, rfl⟩
      have K := fun w => ih q (by omega) (by omega) w
      have e1 : (n : Int) / 10 = (q : Int) := by omega
      have e2 : (n : Int) % 10 = (r : Int) := by omega
      have e3 : (n : Int).tmod 10 = (r : Int) := by rw [hr]; rfl
      have w3 : IntKind.i64.wrap ((r : Int) + 1) = (r : Int) + 1 := IntWalk.i64_in _ (by omega)
      have w1 : IntKind.i64.wrap (q : Int) = (q : Int) := IntWalk.i64_in _ (by omega)
      have w2 : IntKind.i64.wrap (r : Int) = (r : Int) := IntWalk.i64_in _ (by omega)
      have S := dgs r (by omega)
      have HD := Lib.hid (show Lib.decDigits n = Lib.decDigits q ++ [UInt8.ofNat (48 + r)] by rw [Lib.decDigits, dif_neg h, hq, hr])
      have z1 := mk_size (Lib.decDigits q)
      have z2 := dec_len (n := q) (by omega)
      have z3 : (dgS r).size = 1 := rfl
      have z4 : (Lin.mk (Lib.decDigits q)).size ≤ 3 := by omega
      have HQ := Lib.hid hq
      have HR := Lib.hid hr
      clear hq hr
      have b1 : (r : Int) ≤ 10 := by omega
      have b2 : (r : Int) + 1 ≤ 10 := by omega
      clear ih
      go_enter Tryd.func38, Tryd.ntmps38
      go_wp2_with fail
      go_quiet ((go_at_call 38; with_reducible exact quiet_one (K _)))
      go_wp2_with fail
      go_ret
      refine ⟨by rw [HD.out, ← mk_app]; rfl, _, rfl⟩

/-- the start and the length of a group -/
theorem rshown_any (a d : Nat) (w : World) (h3 : a + d < 1000) : Calls Tryd.prog 23 #[.int .i64 (a : Int), .int .i64 (d : Int)] w (QPost (.string (Lin.mk (rgB a (a + d)))) w) := by
  have hd : d < 1000 := by omega
  have z2 := dec_len (n := d) hd
  have s2 := mk_size (Lib.decDigits d)
  have s2' : (Lin.mk (Lib.decDigits d)).size ≤ 3 := by omega
  by_cases h : 0 < d
  case' pos =>
    have g0 : decide (0 < d) = true := decide_eq_true h
    have E := Lib.hid (show Lin.mk (rgB a (a + d)) = Lin.mk (Lib.decDigits (a + 1)) ++ ⟨#[44]⟩ ++ Lin.mk (Lib.decDigits d) by
      unfold rgB; rw [if_pos (by omega), show a + d - a = d by omega, ← mk_app, ← mk_app]; rfl)
    have z1 := dec_len (n := a + 1) (by omega)
    have s1 := mk_size (Lib.decDigits (a + 1))
    have s1' : (Lin.mk (Lib.decDigits (a + 1))).size ≤ 3 := by omega
    have K1 : ∀ w, Calls Tryd.prog 38 #[.int .i64 ((a : Int) + 1)] w (QPost (.string (Lin.mk (Lib.decDigits (a + 1)))) w) := fun w => number_any (a + 1) (by omega) w
  case' neg =>
    have g0 : decide (0 < d) = false := decide_eq_false h
    have E := Lib.hid (show Lin.mk (rgB a (a + d)) = Lin.mk (Lib.decDigits a) ++ ⟨#[44]⟩ ++ Lin.mk (Lib.decDigits d) by
      unfold rgB; rw [if_neg (by omega), show a + d - a = d by omega, ← mk_app, ← mk_app]; rfl)
    have z1 := dec_len (n := a) (by omega)
    have s1 := mk_size (Lib.decDigits a)
    have s1' : (Lin.mk (Lib.decDigits a)).size ≤ 3 := by omega
    have K1 : ∀ w, Calls Tryd.prog 38 #[.int .i64 (a : Int)] w (QPost (.string (Lin.mk (Lib.decDigits a))) w) := fun w => number_any a (by omega) w
  all_goals
    have K2 := fun w => number_any d hd w
    have b1 : (⟨#[44]⟩ : ByteArray).size = 1 := rfl
    clear h
    go_enter Tryd.func23, Tryd.ntmps23
    go_wp2_with fail
    refine (K1 _).mono ?_
    rintro e w1 ⟨rfl, n1, hw1⟩
    have HW1 := Lib.hid hw1
    clear hw1
    go_wp2_with fail
    refine (K2 _).mono ?_
    rintro e w2 ⟨rfl, n2, hw2⟩
    have HW2 : Hid (w2 = w.drewN (n1 + n2)) := Lib.hid (by rw [hw2, HW1.out, World.drewN_drewN])
    clear hw2
    go_wp2_with fail
    go_ret
    exact ⟨by rw [E.out]; rfl, _, HW2.out⟩
end Go.Proofs.YtcheggdfcdokiaaDoor
