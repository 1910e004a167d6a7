/-
  The reference functions for package digest, walked.
-/
import Derived.Test.YtholdclfckkidaaDigJ
namespace Go.Proofs.Ytholdclfckkidaa
open Go.RowKit Go.Lib

set_option maxHeartbeats 400000 in
theorem at_any (c i : Int) (w : World) : Calls Try.prog 10 #[.int .i64 c, .int .i64 i] w (BPost (.agg #[.int .i64 c, .int .i64 i]) w) := by
  go_enter Try.func10, Try.ntmps10
  go_wp2
  go_returns
  refine ⟨rfl, ?_⟩; (repeat' (first | (with_reducible exact Below.refl _ _) | (with_reducible assumption) | (with_reducible refine below_drewN ?_ _) | (with_reducible refine Below.setCell ?_ ?_ _) | (with_reducible refine Below.alloc ?_ ?_ _) | (with_reducible refine Below.drew ?_) | go_size))

theorem half_step (s a b t : Nat) (h : (s + a * b) % 2305843009213693951 = t) :
    (b % 2 = 1 → ((s + a) % 2305843009213693951 + (a + a) % 2305843009213693951 * (b / 2)) % 2305843009213693951 = t) ∧ (b % 2 = 0 → (s + (a + a) % 2305843009213693951 * (b / 2)) % 2305843009213693951 = t) := by
  have e : ∀ s', (s' + (a + a) % 2305843009213693951 * (b / 2)) % 2305843009213693951 = (s' + (a + a) * (b / 2)) % 2305843009213693951 := by
    intro s'
    rw [Nat.add_mod, Nat.mod_mul_mod, ← Nat.add_mod]
  constructor
  · intro hb
    rw [e, Nat.mod_add_mod, ← h]
    congr 1
    have : b = 2 * (b / 2) + 1 := by omega
    generalize b / 2 = k at *
    subst this
    rw [Nat.mul_add, ← Nat.two_mul, Nat.mul_one, ← Nat.mul_assoc, Nat.mul_comm a 2]
    omega
  · intro hb
    rw [e, ← h]
    congr 1
    have : b = 2 * (b / 2) := by omega
    generalize b / 2 = k at *
    subst this
    rw [← Nat.two_mul, ← Nat.mul_assoc, Nat.mul_comm a 2]

set_option maxHeartbeats 1000000 in
set_option maxRecDepth 100000 in
theorem times_any (a b r : Nat) (ha : a < 2305843009213693951) (hb : b < 2305843009213693951) (hr : a * b % 2305843009213693951 = r) (w : World) :
    Calls Try.prog 20 #[.int .i64 a, .int .i64 b] w fun e w' => e = .returned (.int .i64 r) ∧ w = w' := by
  have HR := Lib.hid hr
  clear hr
  go_enter Try.func20, Try.ntmps20
  go_wp2
  go_loop [0, 1, 5] (fun x y s => ∃ x' y' s' : Nat, x = .int .i64 x' ∧ y = .int .i64 y' ∧ s = .int .i64 s' ∧ x' < 2305843009213693951 ∧ s' < 2305843009213693951 ∧ y' < 2305843009213693951 ∧ Hid ((s' + x' * y') % 2305843009213693951 = r)) (fun _ y _ => (intOf y).toNat)
  case atStart => exact ⟨a, b, 0, rfl, rfl, rfl, ha, by omega, hb, Lib.hid (by rw [Nat.zero_add]; exact HR.out)⟩
  case round =>
    obtain ⟨x, y, s, rfl, rfl, rfl, hx, hs, hy, hH⟩ := hrel
    obtain ⟨ho, he⟩ := half_step s x y r hH.out
    by_cases h0 : y = 0
    · subst h0
      go_wp2_with fail
      go_ret
      have := hH.out
      rw [Nat.mul_zero, Nat.add_zero, Nat.mod_eq_of_lt hs] at this
      exact ⟨by subst this; rfl, rfl⟩
    · have g0 : decide ((0 : Int) < (y : Int)) = true := by rw [decide_eq_true_iff]; omega
      obtain ⟨X, hX⟩ : ∃ X, X = (x + x) % 2305843009213693951 := ⟨_, rfl⟩
      obtain ⟨S, hS⟩ : ∃ S, S = (s + x) % 2305843009213693951 := ⟨_, rfl⟩
      obtain ⟨Y, hY⟩ : ∃ Y, Y = y / 2 := ⟨_, rfl⟩
      rw [← hX, ← hS, ← hY] at ho
      rw [← hX, ← hY] at he
      have e1 : ((x : Int) + x) % 2305843009213693951 = X := by omega
      have e2 : ((s : Int) + x) % 2305843009213693951 = S := by omega
      have e3 : (y : Int) / 2 = Y := by omega
      have b1 : X < 2305843009213693951 := by omega
      have b2 : S < 2305843009213693951 := by omega
      have b3 : Y < 2305843009213693951 := by omega
      have b4 : Y < y := by omega
      clear hX hS hY
      by_cases h1 : y % 2 = 1
      · have g1 : ((y : Int) % 2 == 1) = true := by rw [beq_iff_eq]; omega
        have HO := Lib.hid (ho h1)
        clear ho he h1
        go_wp2_with fail
        go_round
        case rel => exact ⟨X, Y, S, by first | exact rfl | rw [e1], by first | exact rfl | rw [e3], by first | exact rfl | rw [e2], b1, b2, b3, HO⟩
        case measure => simp [intOf]; omega
      · have g1 : ((y : Int) % 2 == 1) = false := by rw [beq_eq_false_iff_ne]; omega
        have HO := Lib.hid (he (by omega))
        clear ho he h1
        go_wp2_with fail
        go_round
        case rel => exact ⟨X, Y, s, by first | exact rfl | rw [e1], by first | exact rfl | rw [e3], rfl, b1, hs, b3, HO⟩
        case measure => simp [intOf]; omega

theorem times_any' (a b r : Nat) (ha : a < 2305843009213693951) (hb : b < 2305843009213693951) (hr : a * b % 2305843009213693951 = r) (w : World) :
    Calls Try.prog 20 #[.int .i64 a, .int .i64 b] w fun e w' => e = .returned (.int .i64 r) ∧ w' = w :=
  (times_any a b r ha hb hr w).mono fun _ _ h => ⟨h.1, h.2.symm⟩

set_option maxHeartbeats 400000 in
set_option maxRecDepth 100000 in
theorem isDigest_any (n : Int) (b : Bool) (hb : b = decide (Dg n)) (w : World) : Calls Try.prog 13 #[.int .i64 n] w fun e w' => e = .returned (.bool b) ∧ w = w' := by
  by_cases h0 : 0 ≤ n
  · have g0 : decide ((0 : Int) ≤ n) = true := by simpa using h0
    by_cases h1 : n < 2305843009213693951
    · have g1 : decide (n < 2305843009213693951) = true := by simpa using h1
      have : b = true := by rw [hb]; exact decide_eq_true ⟨h0, h1⟩
      subst this
      clear hb
      go_enter Try.func13, Try.ntmps13
      go_wp2
      go_ret
      exact ⟨rfl, rfl⟩
    · have g1 : decide (n < 2305843009213693951) = false := by simpa using h1
      have : b = false := by rw [hb]; exact decide_eq_false fun h => h1 h.2
      subst this
      clear hb
      go_enter Try.func13, Try.ntmps13
      go_wp2
      go_ret
      exact ⟨rfl, rfl⟩
  · have g0 : decide ((0 : Int) ≤ n) = false := by simpa using h0
    have : b = false := by rw [hb]; exact decide_eq_false fun h => h0 h.1
    subst this
    clear hb
    go_enter Try.func13, Try.ntmps13
    go_wp2
    go_ret
    exact ⟨rfl, rfl⟩

theorem ref_step (h b : Nat) : (257 * h % 2305843009213693951 + b + 1) % 2305843009213693951 = Dig.step h b := by
  unfold Dig.step; omega
theorem ref_pair (a b : Nat) : (a * 1000003 % 2305843009213693951 + b * 31 % 2305843009213693951 + 7) % 2305843009213693951 = Dig.pr a b := by
  unfold Dig.pr; omega

set_option maxHeartbeats 400000 in
set_option maxRecDepth 100000 in
theorem refPair_any (a b : Nat) (ha : a < 2305843009213693951) (hb : b < 2305843009213693951) (w : World) :
    Calls Try.prog 14 #[.int .i64 a, .int .i64 b] w fun e w' => e = .returned (.int .i64 (Dig.pr a b : Nat)) ∧ w = w' := by
  obtain ⟨x, hx⟩ : ∃ x, x = a * 1000003 % 2305843009213693951 := ⟨_, rfl⟩
  obtain ⟨y, hy⟩ : ∃ y, y = b * 31 % 2305843009213693951 := ⟨_, rfl⟩
  have h := ref_pair a b
  rw [← hx, ← hy] at h
  have b1 : x < 2305843009213693951 := by omega
  have b2 : y < 2305843009213693951 := by omega
  obtain ⟨r, hr⟩ : ∃ r, r = Dig.pr a b := ⟨_, rfl⟩
  rw [← hr] at h ⊢
  have e : ((x : Int) + y + 7) % 2305843009213693951 = r := by omega
  have HX := Lib.hid hx
  have HY := Lib.hid hy
  clear hx hy h hr
  go_enter Try.func14, Try.ntmps14
  go_wp2_with fail
  refine (times_any a 1000003 x ha (by omega) HX.out.symm _).mono ?_
  rintro e w' ⟨rfl, rfl⟩
  go_wp2_with fail
  refine (times_any b 31 y hb (by omega) HY.out.symm _).mono ?_
  rintro e w' ⟨rfl, rfl⟩
  go_wp2_with fail
  go_ret
  exact ⟨by rw [e]; rfl, rfl⟩

theorem times_257 (d r : Nat) (hd : d < 2305843009213693951) (hr : 257 * d % 2305843009213693951 = r) (w : World) :
    Calls Try.prog 20 #[.int .i64 d, .int .i64 257] w fun e w' => e = .returned (.int .i64 r) ∧ w' = w :=
  times_any' d 257 r hd (by omega) (by rw [Nat.mul_comm]; exact hr) w

set_option maxHeartbeats 1000000 in
set_option maxRecDepth 100000 in
theorem refOf_any (p : Option Addr) (l : List Nat) (n cap : Nat) (w : World) (hn : n = l.length) (hp : Bts w p l) :
    Calls Try.prog 11 #[.slice p n cap] w (QPost (.int .i64 (Dig.dof l : Nat)) w) := by
  subst hn
  by_cases hnil : l = []
  · subst hnil
    go_enter Try.func11, Try.ntmps11
    go_wp2
    go_rounds 1
    go_ret
    exact ⟨rfl, 0, rfl⟩
  · obtain ⟨hs, hlen, _, hat⟩ := hp
    obtain ⟨b, off, rfl, hb, hc⟩ := hat hnil
    have hH := Lib.hid hc
    have hS := Lib.hid hs
    clear hc hs hat
    go_enter Try.func11, Try.ntmps11
    go_wp2
    go_loopw [3, 4] (fun x i wr => ∃ k n : Nat, k ≤ l.length ∧ i = .int .i64 k ∧ x = .int .i64 (Dig.dof (l.take k)) ∧ wr = w.drewN n) (fun _ i _ => l.length - (intOf i).toNat)
    case atStart => exact ⟨0, 0, Nat.zero_le _, rfl, rfl, rfl⟩
    case round =>
      obtain ⟨k, n, hk, rfl, rfl, hw⟩ := hrel
      have HW := Lib.hid hw
      clear hw
      by_cases hlt : k < l.length
      · obtain ⟨x, hx⟩ : ∃ x, x = l[k] := ⟨_, rfl⟩
        have h1 : wr.cell? ⟨b, off + k, none⟩ = some (.int .u8 (x : Int)) := by
          rw [HW.out, World.cell?_drewN, hH.out k hlt, hx]; congr 3; simp [List.getD_eq_getElem?_getD, hlt]
        have h2 : x < 256 := by rw [hx]; exact hS.out _ (List.getElem_mem _)
        have h3 : Hid (Dig.step (Dig.dof (l.take k)) x = Dig.dof (l.take (k + 1))) := Lib.hid (by rw [Dig.take_snoc l k hlt, Dig.dof_snoc, hx])
        have h4 := Dig.dof_lt (l.take k)
        clear hx
        obtain ⟨d, hd⟩ : ∃ d, d = Dig.dof (l.take k) := ⟨_, rfl⟩
        obtain ⟨d', hd'⟩ : ∃ d', d' = Dig.dof (l.take (k + 1)) := ⟨_, rfl⟩
        rw [← hd] at h3 h4 ⊢
        rw [← hd'] at h3
        have hD := Lib.hid hd'
        clear hd hd'
        obtain ⟨t, ht⟩ : ∃ t, t = 257 * d % 2305843009213693951 := ⟨_, rfl⟩
        have h5 := ref_step d x
        rw [← ht, h3.out] at h5
        have h6 : t < 2305843009213693951 := by omega
        have e : ((t : Int) + x + 1) % 2305843009213693951 = d' := by omega
        have hT := Lib.hid ht
        clear ht h5
        have b7 : (0 : Int) ≤ (k : Int) := by omega
        have b8 : (k : Int) < (l.length : Int) := by omega
        go_wp2_with fail
        go_quiet ((go_at_call 20; exact Calls.quiet_of_same (times_257 d t h4 hT.out.symm _)))
        go_wp2_with fail
        go_roundw
        case rel => exact ⟨k + 1, _, by omega, by go_num, by rw [← hD.out]; first | exact rfl | rw [e], by rw [HW.out, World.drewN_drewN]⟩
        case measure => simp [intOf]; omega
      · have hk' : Hid (l.take k = l) := Lib.hid (List.take_of_length_le (by omega))
        go_wp2_with fail
        go_ret
        rw [hk'.out]
        exact ⟨rfl, n, HW.out⟩
end Go.Proofs.Ytholdclfckkidaa
