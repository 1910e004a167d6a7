
/-
  Package multivalue: numbers out of range, vectors that cover, the order of vectors, walked.
-/
import Derived.Test.YtidncnhhjfdifaaMvA
import Derived.Test.YtidncnhhjfdifaaOver
import Derived.Lib.Hide
import Derived.LoopN
namespace Go.Proofs.Ytidncnhhjfdifaa
open Go.RowKit
set_option maxRecDepth 4000

/-- the very world behind a call -/
def SPost (v : Value) (w : World) (e : Ending) (w' : World) : Prop := e = .returned v ∧ w' = w
theorem SPost.b {f : FuncId} {args : Array Value} {w : World} {v : Value} (h : Calls Try.prog f args w (SPost v w)) : Calls Try.prog f args w (BPost v w) := h.mono fun _ _ ⟨a, b⟩ => ⟨a, by rw [b]; exact Below.refl _ _⟩
theorem SPost.q {f : FuncId} {args : Array Value} {X : World} {a : Nat} {v : Value} (h : Calls Try.prog f args (X.drewN a) (SPost v (X.drewN a))) :
    Calls Try.prog f args (X.drewN a) fun e w'' => e = .returned v ∧ ∃ n, w'' = X.drewN n := h.mono fun _ _ ⟨he, hm⟩ => ⟨he, a, hm⟩
set_option maxRecDepth 100000 in
theorem mvNaN_any (a : Int) (w : World) : Calls Try.prog 103 #[.int .i64 a] w (SPost (.bool false) w) := by
  go_enter Try.func103, Try.ntmps103
  go_wp2_with fail
  go_returns
  unfold SPost
  simp
set_option maxRecDepth 100000 in
theorem mvCmp_any (a b : Int) (w : World) : Calls Try.prog 73 #[.int .i64 a, .int .i64 b] w (SPost (.int .i64 (Mv.c3 a b)) w) := by
  have h : a < b ∨ b < a ∨ a = b := by omega
  rcases h with h | h | h
  case' inl =>
    have g1 : decide (a < b) = true := decide_eq_true h
    have E : Mv.c3 a b = -1 := if_pos h
  case' inr.inl =>
    have g1 : decide (a < b) = false := decide_eq_false (by omega)
    have g2 : decide (b < a) = true := decide_eq_true h
    have E : Mv.c3 a b = 1 := by unfold Mv.c3; rw [if_neg (by omega), if_pos h]
  case' inr.inr =>
    have g1 : decide (a < b) = false := decide_eq_false (by omega)
    have g2 : decide (b < a) = false := decide_eq_false (by omega)
    have E : Mv.c3 a b = 0 := by unfold Mv.c3; rw [if_neg (by omega), if_neg (by omega)]
  all_goals
    clear h
    rw [E]
    clear E
    go_enter Try.func73, Try.ntmps73
    go_wp2_with (go_at_call 103; refine (mvNaN_any _ _).mono ?_; rintro e w ⟨rfl, rfl⟩)
    go_returns
    exact ⟨rfl, rfl⟩
set_option maxRecDepth 100000 in
theorem out_any (n : Int) (w : World) : Calls Try.prog 36 #[.int .i64 n] w (SPost (.bool (Mv.out n)) w) := by
  generalize hB : Mv.out n = B
  unfold Mv.out at hB
  cases h1 : decide (n < 0)
  case' false => cases h2 : decide (1000000000 < n)
  case' true => rw [h1, Bool.true_or] at hB
  case' false.true => rw [h1, h2, Bool.or_true] at hB
  case' false.false => rw [h1, h2, Bool.or_false] at hB
  all_goals
    subst hB
    go_enter Try.func36, Try.ntmps36
    go_wp2_with fail
    go_returns
    exact ⟨rfl, rfl⟩
theorem cov_next {a b : List Int} {k : Nat} (h : k < a.length) (h' : k < b.length) : Mv.cov (a.drop k) (b.drop k) = (!decide (a[k] < b[k]) && Mv.cov (a.drop (k + 1)) (b.drop (k + 1))) := by
  rw [List.drop_eq_getElem_cons h, List.drop_eq_getElem_cons h']; rfl
theorem cov_end {a b : List Int} {k : Nat} (h : a.length ≤ k) : Mv.cov (a.drop k) (b.drop k) = true := by
  rw [List.drop_eq_nil_of_le h]; cases b.drop k <;> rfl
set_option maxHeartbeats 1000000 in
theorem covers_any (p q : Option Addr) (a b : List Int) (cap cap' : Nat) (w : World) (hp : Row nE w p a) (hq : Row nE w q b) (hl : a.length ≤ b.length) (hb : b.length ≤ 100) :
    Calls Try.prog 43 #[.slice p a.length cap, .slice q b.length cap'] w (SPost (.bool (Mv.cov a b)) w) := by
  have HP := Lib.hid hp
  have HQ := Lib.hid hq
  clear hp hq
  generalize hB : Mv.cov a b = B
  have HB := Lib.hid hB
  clear hB
  go_enter Try.func43, Try.ntmps43
  go_wp2
  go_loopw [9] (fun iv wr => ∃ k : Nat, k ≤ a.length ∧ iv = .int .i64 k ∧ w = wr ∧ Hid (Mv.cov (a.drop k) (b.drop k) = B)) (fun iv _ => a.length - (intOf iv).toNat)
  case atStart => exact ⟨0, Nat.zero_le _, rfl, rfl, Lib.hid (by simpa using HB.out)⟩
  case round =>
    obtain ⟨k, hk, rfl, rfl, ht⟩ := hrel
    have b0 : (0 : Int) ≤ (k : Int) := by omega
    by_cases hlt : k < a.length
    · have g1 : decide ((k : Int) < (a.length : Int)) = true := decide_eq_true (by omega)
      have g1' : decide (k < a.length) = true := decide_eq_true hlt
      obtain ⟨b1, off, rfl, hb1, h1⟩ := HP.out.nat hlt
      obtain ⟨b2, off', rfl, hb2, h2⟩ := HQ.out.nat (k := k) (by omega)
      have b8 : (k : Int) < (a.length : Int) := by omega
      have b9 : (k : Int) < (b.length : Int) := by omega
      have NX := Lib.hid ((cov_next hlt (by omega)).symm.trans ht.out)
      obtain ⟨x, hx⟩ : ∃ x, x = a[k] := ⟨_, rfl⟩
      obtain ⟨y, hy⟩ : ∃ y, y = b[k]'(by omega) := ⟨_, rfl⟩
      rw [← hx] at h1 NX
      rw [← hy] at h2 NX
      clear hx hy
      by_cases hxy : x < y
      · have g2 : decide (x < y) = true := decide_eq_true hxy
        have E := Lib.hid (by have := NX.out; rw [g2] at this; simpa using this : B = false)
        clear hxy
        go_wp2_with fail
        go_ret
        exact ⟨by rw [E.out]; rfl, rfl⟩
      · have g2 : decide (x < y) = false := decide_eq_false hxy
        have E := Lib.hid (by have := NX.out; rw [g2] at this; simpa using this : Mv.cov (a.drop (k + 1)) (b.drop (k + 1)) = B)
        clear hxy
        go_wp2_with fail
        go_roundw
        case rel => exact ⟨k + 1, by omega, by go_num, trivial, E⟩
        case measure => simp [intOf]; omega
    · have g1 : decide ((k : Int) < (a.length : Int)) = false := decide_eq_false (by omega)
      have g1' : decide (k < a.length) = false := decide_eq_false hlt
      have E := Lib.hid (ht.out.symm.trans (cov_end (by omega)))
      go_wp2_with fail
      go_ret
      exact ⟨by rw [E.out]; rfl, rfl⟩
set_option maxRecDepth 100000 in
theorem supersedes_any (p q : Option Addr) (a b : List Int) (cap cap' : Nat) (w : World) (hp : Row nE w p a) (hq : Row nE w q b) (hl : a.length = b.length) (hb : b.length ≤ 100) :
    Calls Try.prog 42 #[.slice p a.length cap, .slice q b.length cap'] w (SPost (.bool (Mv.sup a b)) w) := by
  have C1 := Lib.hid (covers_any p q a b cap cap' w hp hq (by omega) hb)
  have C2 := Lib.hid (covers_any q p b a cap' cap w hq hp (by omega) (by omega))
  unfold Mv.sup
  cases h1 : Mv.cov a b
  case' true => cases h2 : Mv.cov b a
  all_goals
    try rw [h1] at C1
    try rw [h2] at C2
    clear hp hq hl
    go_enter Try.func42, Try.ntmps42
    go_wp2_with (go_at_call 43; first | ((with_reducible refine Calls.mono C1.out ?_); rintro e w1 ⟨rfl, rfl⟩) | ((with_reducible refine Calls.mono C2.out ?_); rintro e w1 ⟨rfl, rfl⟩))
    go_returns
    exact ⟨rfl, rfl⟩
theorem cmpL_next {a b : List Int} {k : Nat} (h : k < a.length) (h' : k < b.length) : Mv.cmpL (a.drop k) (b.drop k) = if Mv.c3 a[k] b[k] = 0 then Mv.cmpL (a.drop (k + 1)) (b.drop (k + 1)) else Mv.c3 a[k] b[k] := by
  rw [List.drop_eq_getElem_cons h, List.drop_eq_getElem_cons h']; rfl
theorem cmpL_long {a b : List Int} {k : Nat} (h : k < a.length) (h' : b.length ≤ k) : Mv.cmpL (a.drop k) (b.drop k) = 1 := by
  rw [List.drop_eq_getElem_cons h, List.drop_eq_nil_of_le h']; rfl
theorem cmpL_short {a b : List Int} {k : Nat} (h : a.length ≤ k) (h' : k < b.length) : Mv.cmpL (a.drop k) (b.drop k) = -1 := by
  rw [List.drop_eq_nil_of_le h, List.drop_eq_getElem_cons h']; rfl
theorem cmpL_both {a b : List Int} {k : Nat} (h : a.length ≤ k) (h' : b.length ≤ k) : Mv.cmpL (a.drop k) (b.drop k) = 0 := by
  rw [List.drop_eq_nil_of_le h, List.drop_eq_nil_of_le h']; rfl
set_option maxHeartbeats 1000000 in
theorem cmpL_any (p q : Option Addr) (a b : List Int) (cap cap' : Nat) (w : World) (hp : Row nE w p a) (hq : Row nE w q b) (hl : a.length ≤ 100) :
    Calls Try.prog 46 #[.slice p a.length cap, .slice q b.length cap'] w (SPost (.int .i64 (Mv.cmpL a b)) w) := by
  have HP := Lib.hid hp
  have HQ := Lib.hid hq
  clear hp hq
  generalize hB : Mv.cmpL a b = B
  have HB := Lib.hid hB
  clear hB
  go_enter Try.func46, Try.ntmps46
  go_wp2
  go_loopw [11] (fun iv wr => ∃ k : Nat, k ≤ a.length ∧ k ≤ b.length ∧ iv = .int .i64 k ∧ w = wr ∧ Hid (Mv.cmpL (a.drop k) (b.drop k) = B)) (fun iv _ => a.length - (intOf iv).toNat)
  case atStart => exact ⟨0, Nat.zero_le _, Nat.zero_le _, rfl, rfl, Lib.hid (by simpa using HB.out)⟩
  case round =>
    obtain ⟨k, hk, hk', rfl, rfl, ht⟩ := hrel
    have b0 : (0 : Int) ≤ (k : Int) := by omega
    by_cases hlt : k < a.length
    · have g1 : decide ((k : Int) < (a.length : Int)) = true := decide_eq_true (by omega)
      have g1' : decide (k < a.length) = true := decide_eq_true hlt
      obtain ⟨b1, off, rfl, hb1, h1⟩ := HP.out.nat hlt
      have b8 : (k : Int) < (a.length : Int) := by omega
      by_cases hlt' : k < b.length
      · obtain ⟨b2, off', rfl, hb2, h2⟩ := HQ.out.nat (k := k) (by omega)
        have b9 : (k : Int) < (b.length : Int) := by omega
        have g2 : decide ((b.length : Int) ≤ (k : Int)) = false := decide_eq_false (by omega)
        have g2' : decide (b.length ≤ k) = false := decide_eq_false (by omega)
        have NX := Lib.hid ((cmpL_next hlt (by omega)).symm.trans ht.out)
        obtain ⟨x, hx⟩ : ∃ x, x = a[k] := ⟨_, rfl⟩
        obtain ⟨y, hy⟩ : ∃ y, y = b[k]'(by omega) := ⟨_, rfl⟩
        rw [← hx] at h1 NX
        rw [← hy] at h2 NX
        clear hx hy
        obtain ⟨c, hc⟩ : ∃ c, c = Mv.c3 x y := ⟨_, rfl⟩
        have CM := Lib.hid (fun w => mvCmp_any x y w)
        rw [← hc] at NX CM
        clear hc
        by_cases hz : c = 0
        · have E := Lib.hid ((if_pos hz).symm.trans NX.out)
          have g3 : (c != 0) = false := by rw [hz]; rfl
          clear hz NX
          go_wp2_with fail
          refine (CM.out _).mono ?_
          rintro e w2 ⟨rfl, rfl⟩
          go_wp2_with fail
          go_roundw
          case rel => exact ⟨k + 1, by omega, by omega, by go_num, trivial, E⟩
          case measure => simp [intOf]; omega
        · have E := Lib.hid ((if_neg hz).symm.trans NX.out)
          have g3 : (c != 0) = true := by rw [bne_iff_ne]; exact hz
          clear hz NX
          go_wp2_with fail
          refine (CM.out _).mono ?_
          rintro e w2 ⟨rfl, rfl⟩
          go_wp2_with fail
          go_ret
          exact ⟨by rw [← E.out]; rfl, rfl⟩
      · have g2 : decide ((b.length : Int) ≤ (k : Int)) = true := decide_eq_true (by omega)
        have g2' : decide (b.length ≤ k) = true := decide_eq_true (by omega)
        have E := Lib.hid (ht.out.symm.trans (cmpL_long hlt (by omega)))
        go_wp2_with fail
        go_ret
        exact ⟨by rw [E.out]; rfl, rfl⟩
    · have g1 : decide ((k : Int) < (a.length : Int)) = false := decide_eq_false (by omega)
      have g1' : decide (k < a.length) = false := decide_eq_false hlt
      obtain rfl : k = a.length := by omega
      by_cases hlt' : a.length < b.length
      · have g2 : decide ((a.length : Int) < (b.length : Int)) = true := decide_eq_true (by omega)
        have g2' : decide (a.length < b.length) = true := decide_eq_true (by omega)
        have E := Lib.hid (ht.out.symm.trans (cmpL_short (Nat.le_refl _) hlt'))
        go_wp2_with fail
        go_ret
        exact ⟨by rw [E.out]; rfl, rfl⟩
      · have g2 : decide ((a.length : Int) < (b.length : Int)) = false := decide_eq_false (by omega)
        have g2' : decide (a.length < b.length) = false := decide_eq_false (by omega)
        have E := Lib.hid (ht.out.symm.trans (cmpL_both (Nat.le_refl _) (by omega)))
        go_wp2_with fail
        go_ret
        exact ⟨by rw [E.out]; rfl, rfl⟩
set_option maxHeartbeats 1000000 in
theorem mx_any (p : Option Addr) (a : List Int) (cap : Nat) (w : World) (hp : Row nE w p a) (h0 : 0 < a.length) (hl : a.length ≤ 100) :
    Calls Try.prog 75 #[.slice p a.length cap] w (SPost (.int .i64 (Mv.mxL a)) w) := by
  have HP := Lib.hid hp
  have g0 : decide ((a.length : Int) < 1) = false := decide_eq_false (by omega)
  have g0' : decide (a.length < 1) = false := decide_eq_false (by omega)
  obtain ⟨b1, off, rfl, hb1, h1⟩ := hp.nat h0
  rw [Nat.add_zero] at h1
  clear hp
  match a, h0 with
  | x :: r, h0 =>
  rw [show (x :: r)[0] = x from rfl] at h1
  go_enter Try.func75, Try.ntmps75
  go_wp2
  go_loopw [3, 4] (fun m iv wr => ∃ k : Nat, 1 ≤ k ∧ k ≤ r.length + 1 ∧ iv = .int .i64 k ∧ m = .int .i64 ((r.take (k - 1)).foldl max x) ∧ w = wr) (fun _ iv _ => r.length + 1 - (intOf iv).toNat)
  case atStart => exact ⟨1, Nat.le_refl _, by omega, rfl, rfl, rfl⟩
  case round =>
    obtain ⟨k, hk1, hk, rfl, rfl, rfl⟩ := hrel
    have b0 : (0 : Int) ≤ (k : Int) := by omega
    by_cases hlt : k < r.length + 1
    · have g1 : decide ((k : Int) < ((r.length + 1 : Nat) : Int)) = true := decide_eq_true (by omega)
      have g1' : decide (k < r.length + 1) = true := decide_eq_true (by omega)
      have b9 : (k : Int) < (r.length : Int) + 1 := by omega
      obtain ⟨b2, off2, e2, hb2, h2⟩ := HP.out.nat (k := k) (by simpa using hlt)
      cases e2
      have hj : k - 1 < r.length := by omega
      have er : (x :: r)[k]'(by simpa using hlt) = r[k - 1] := by
        obtain ⟨j, rfl⟩ : ∃ j, k = j + 1 := ⟨k - 1, by omega⟩
        rfl
      rw [er] at h2
      have NX := Lib.hid (show (r.take k).foldl max x = if (r.take (k - 1)).foldl max x < r[k - 1] then r[k - 1] else (r.take (k - 1)).foldl max x by
        have e : r.take k = r.take (k - 1) ++ [r[k - 1]] := by rw [← List.take_succ_eq_append_getElem hj, show k - 1 + 1 = k by omega]
        rw [e, List.foldl_append]
        show max _ _ = _
        omega)
      obtain ⟨y, hy⟩ : ∃ y, y = r[k - 1] := ⟨_, rfl⟩
      obtain ⟨m, hm⟩ : ∃ m, m = (r.take (k - 1)).foldl max x := ⟨_, rfl⟩
      rw [← hy] at h2 NX
      rw [← hm] at NX ⊢
      clear hy hm hj er
      have wk : IntKind.i64.wrap ((k : Int) + 1) = (k : Int) + 1 := IntWalk.i64_in _ (by simp at hl; omega)
      go_wp2_with fail
      go_roundw
      case rel => exact ⟨k + 1, by omega, by omega, by go_num, by rw [Nat.add_sub_cancel, NX.out], trivial⟩
      case measure => simp [intOf]; omega
    · obtain rfl : k = r.length + 1 := by omega
      have E := Lib.hid (show (r.take (r.length + 1 - 1)).foldl max x = Mv.mxL (x :: r) by rw [Nat.add_sub_cancel, List.take_length]; rfl)
      rw [E.out]
      go_wp2_with fail
      go_ret
      exact ⟨rfl, rfl⟩
end Go.Proofs.Ytidncnhhjfdifaa
