/-
  The arithmetic of package digest: math/bits.Mul64, LeadingZeros64, Div64 and Rem64 at the modulus 2^61 - 1, and mulAdd, walked over this seat's translation.
-/
import Derived.Test.YtnjhnejebemflaaChecked
import Derived.WalkKit
import Derived.Handy
import Derived.Lib.Mul64
import Derived.Laws.Bits64b
import Derived.Lib.Hide
namespace Go.Proofs.Ytnjhnejebemflaa
open Go.RowKit Go.Lib

theorem maskN (a : Nat) (ha : a < 18446744073709551616) : bits .and .u64 (a : Int) 4294967295 = ((a % 4294967296 : Nat) : Int) := by
  have h := bits_and_u64_nat a 4294967295 ha (by omega)
  have e : a &&& 4294967295 = a % 4294967296 := Nat.and_two_pow_sub_one_eq_mod a 32
  rw [e] at h
  exact h
theorem divN (a : Nat) : (a : Int) / 4294967296 = ((a / 4294967296 : Nat) : Int) := by omega
theorem mulN (a b : Nat) : (a : Int) * (b : Int) = ((a * b : Nat) : Int) := (Int.natCast_mul a b).symm
theorem addN (a b : Nat) : (a : Int) + (b : Int) = ((a + b : Nat) : Int) := (Int.natCast_add a b).symm
theorem wrapN (a : Nat) (ha : a < 18446744073709551616) : IntKind.u64.wrap (a : Int) = (a : Int) := by rw [IntKind.wrap_u64]; omega
theorem wrapM (a : Nat) : IntKind.u64.wrap (a : Int) = ((a % 18446744073709551616 : Nat) : Int) := by rw [IntKind.wrap_u64]; omega

set_option maxHeartbeats 1000000 in
theorem mul64_any (x y : Nat) (hx : x < 18446744073709551616) (hy : y < 18446744073709551616) (w : World) :
    Calls Try.prog 37 #[.int .u64 x, .int .u64 y] w fun e w' => e = .returned (.tuple #[.int .u64 ((x * y / 18446744073709551616 : Nat) : Int), .int .u64 ((x * y % 18446744073709551616 : Nat) : Int)]) ∧ w = w' := by
  obtain ⟨bd, bt, bw, hhi⟩ := Lib.mul64_hi x y hx hy
  have ba := Lib.half_mul_le (a := x / 4294967296) (b := y / 4294967296) (by omega) (by omega)
  have bb := Lib.half_mul_le (a := x / 4294967296) (b := y % 4294967296) (by omega) (by omega)
  have bc := Lib.half_mul_le (a := x % 4294967296) (b := y / 4294967296) (by omega) (by omega)
  have ba' : x / 4294967296 * (y / 4294967296) < 18446744073709551616 := by omega
  have bb' : x / 4294967296 * (y % 4294967296) < 18446744073709551616 := by omega
  have bc' : x % 4294967296 * (y / 4294967296) < 18446744073709551616 := by omega
  have bh1 : x / 4294967296 * (y / 4294967296) + (x / 4294967296 * (y % 4294967296) + x % 4294967296 * (y % 4294967296) / 4294967296) / 4294967296 < 18446744073709551616 := by omega
  have bh : x / 4294967296 * (y / 4294967296) + (x / 4294967296 * (y % 4294967296) + x % 4294967296 * (y % 4294967296) / 4294967296) / 4294967296 + ((x / 4294967296 * (y % 4294967296) + x % 4294967296 * (y % 4294967296) / 4294967296) % 4294967296 + x % 4294967296 * (y / 4294967296)) / 4294967296 < 18446744073709551616 := by omega
  go_enter Try.func37, Try.ntmps37
  go_wp2
  simp only [maskN x hx, maskN y hy, divN, mulN, addN, wrapN _ bd, wrapN _ bb', wrapN _ bt, maskN _ bt, wrapN _ bc', wrapN _ bw, wrapN _ ba', wrapN _ bh1, wrapN _ bh, wrapM (x * y)]
  rw [hhi]
  go_ret2
  exact ⟨rfl, rfl⟩

set_option maxHeartbeats 400000 in
set_option maxRecDepth 100000 in
theorem lz_M (w : World) : Calls Try.prog 49 #[.int .u64 2305843009213693951] w fun e w' => e = .returned (.int .i64 3) ∧ w = w' := by
  go_enter Try.func49, Try.ntmps49
  go_wp2
  go_ret
  exact ⟨by kernel_rfl, rfl⟩

def DivPost (hi lo : Nat) (w : World) (e : Ending) (w' : World) : Prop := e = .returned (.tuple #[.int .u64 (((hi * 18446744073709551616 + lo) / 2305843009213693951 : Nat) : Int), .int .u64 (((hi * 18446744073709551616 + lo) % 2305843009213693951 : Nat) : Int)]) ∧ w = w'
theorem or_split (hi lo : Nat) (hh : hi < 262144) (hl : lo < 18446744073709551616) : bits .or .u64 ((hi : Int) * 8) ((lo : Int) / 2305843009213693952) = ((hi * 8 + lo / 2305843009213693952 : Nat) : Int) := by
  have h := bits_or_u64_nat (hi * 8) (lo / 2305843009213693952) (by omega) (by omega)
  have e : hi * 8 ||| lo / 2305843009213693952 = hi * 8 + lo / 2305843009213693952 := by
    have := Nat.two_pow_add_eq_or_of_lt (i := 3) (b := lo / 2305843009213693952) (by omega) hi
    rw [Nat.mul_comm hi 8]; exact this.symm
  rw [e] at h
  rw [← h]
  congr 1
theorem div_fin (hi lo u b c : Nat) (Q : Int) (k : u * 18446744073709551616 + b * 4294967296 + c = (hi * 18446744073709551616 + lo) * 8)
    (h1 : Q * 18446744073709551608 ≤ ((u * 18446744073709551616 + b * 4294967296 + c : Nat) : Int)) (h2 : ((u * 18446744073709551616 + b * 4294967296 + c : Nat) : Int) < Q * 18446744073709551608 + 18446744073709551608) :
    Ending.returned (.tuple #[.int .u64 Q, .int .u64 (IntKind.u64.wrap (IntKind.u64.wrap (IntKind.u64.wrap (((u : Int) * 4294967296 + b) * 4294967296) + c) - IntKind.u64.wrap (Q * 18446744073709551608)) / 8)]) =
      .returned (.tuple #[.int .u64 (((hi * 18446744073709551616 + lo) / 2305843009213693951 : Nat) : Int), .int .u64 (((hi * 18446744073709551616 + lo) % 2305843009213693951 : Nat) : Int)]) := by
  have e1 : Q = (((hi * 18446744073709551616 + lo) / 2305843009213693951 : Nat) : Int) := by omega
  have e2 : IntKind.u64.wrap (IntKind.u64.wrap (IntKind.u64.wrap (((u : Int) * 4294967296 + b) * 4294967296) + c) - IntKind.u64.wrap (Q * 18446744073709551608)) / 8 = (((hi * 18446744073709551616 + lo) % 2305843009213693951 : Nat) : Int) := by
    simp only [IntKind.wrap_u64]; omega
  rw [e2, ← e1]
set_option maxHeartbeats 1000000 in
set_option maxRecDepth 100000 in
theorem div64_M (hi lo : Nat) (h1 : 1 ≤ hi) (hh : hi < 262144) (hl : lo < 18446744073709551616) (w : World) :
    Calls Try.prog 44 #[.int .u64 hi, .int .u64 lo, .int .u64 2305843009213693951] w (DivPost hi lo w) := by
  have e2 := or_split hi lo hh hl
  obtain ⟨u, hu⟩ : ∃ u : Nat, u = hi * 8 + lo / 2305843009213693952 := ⟨_, rfl⟩
  obtain ⟨t, ht⟩ : ∃ t : Nat, t = lo * 8 % 18446744073709551616 := ⟨_, rfl⟩
  obtain ⟨b, hb⟩ : ∃ b : Nat, b = t / 4294967296 := ⟨_, rfl⟩
  obtain ⟨c, hc⟩ : ∃ c : Nat, c = t % 4294967296 := ⟨_, rfl⟩
  obtain ⟨q, hq⟩ : ∃ q : Nat, q = (u * 4294967296 + b) / 4294967295 := ⟨_, rfl⟩
  obtain ⟨r, hr⟩ : ∃ r : Nat, r = (u * 4294967296 + b) % 4294967295 := ⟨_, rfl⟩
  rw [← hu] at e2
  have e3 : IntKind.u64.wrap ((lo : Int) * 8) = (t : Int) := by rw [IntKind.wrap_u64]; omega
  have e4 := maskN t (by omega)
  rw [← hc] at e4
  have e5 := divN t
  rw [← hb] at e5
  have e6 : (u : Int) / 4294967295 = 0 := by omega
  have e7 : ((u : Int) * 4294967296 + b) / 4294967295 = q := by omega
  have e8 : ((u : Int) * 4294967296 + b) - q * 4294967295 = r := by omega
  have e9 : bits .and .u64 18446744073709551608 4294967295 = 4294967288 := by kernel_rfl
  have g1 : decide ((2305843009213693951 : Int) ≤ (hi : Int)) = false := by rw [decide_eq_false_iff_not]; omega
  have g2 : ((hi : Int) == 0) = false := by rw [beq_eq_false_iff_ne]; omega
  have bu : u < 4194304 := by omega
  have bb : b < 4294967296 := by omega
  have bc : c < 4294967296 := by omega
  have bq : q < 8388608 := by omega
  have br : r < 4294967295 := by omega
  have key : Hid (u * 18446744073709551616 + b * 4294967296 + c = (hi * 18446744073709551616 + lo) * 8 ∧ u * 4294967296 + b = q * 4294967295 + r) := Lib.hid (by omega)
  clear hu ht hb hc hq hr
  go_enter Try.func44, Try.ntmps44
  go_wp2_with fail
  refine (lz_M _).mono ?_
  rintro e w' ⟨rfl, rfl⟩
  go_wp2_with fail
  refine wp_loop_rounds 1 ?_
  rw [rounds_succ]
  go_wp2_with fail
  have g3 : decide ((4294967296 : Int) ≤ (q : Int)) = false := by rw [decide_eq_false_iff_not]; omega
  by_cases hlt : 4294967296 * r + c < q * 4294967288
  · have h1q : 1 ≤ q := by omega
    by_cases h0 : r = 0
    · subst h0
      have g4 : decide ((c : Int) < q * 4294967288) = true := by rw [decide_eq_true_iff]; omega
      have g6 : decide ((4294967296 : Int) ≤ (q : Int) - 1) = false := by rw [decide_eq_false_iff_not]; omega
      have g7 : decide (18446744069414584320 + (c : Int) < ((q : Int) - 1) * 4294967288) = false := by rw [decide_eq_false_iff_not]; omega
      have HL := Lib.hid hlt
      clear hlt
      refine wp_loop_rounds 2 ?_
      rw [rounds_succ]
      go_wp2_with fail
      rw [rounds_succ]
      go_wp2_with fail
      go_ret2
      have k1 := HL.out
      have k2 := key.out
      clear e2 e3 e4 e5 e6 e7 e8 e9 g1 g2 g3 g4 HL key
      exact ⟨div_fin hi lo u b c _ k2.1 (by omega) (by omega), rfl⟩
    · have g4 : decide (4294967296 * (r : Int) + c < q * 4294967288) = true := by rw [decide_eq_true_iff]; omega
      have g5 : decide ((4294967296 : Int) ≤ (r : Int) + 4294967295) = true := by rw [decide_eq_true_iff]; omega
      have HL := Lib.hid hlt
      clear hlt
      refine wp_loop_rounds 1 ?_
      rw [rounds_succ]
      go_wp2_with fail
      go_ret2
      have k1 := HL.out
      have k2 := key.out
      clear e2 e3 e4 e5 e6 e7 e8 e9 g1 g2 g3 g4 g5 HL key
      exact ⟨div_fin hi lo u b c _ k2.1 (by omega) (by omega), rfl⟩
  · have g4 : decide (4294967296 * (r : Int) + c < q * 4294967288) = false := by rw [decide_eq_false_iff_not]; omega
    have HL := Lib.hid hlt
    clear hlt
    refine wp_loop_rounds 1 ?_
    rw [rounds_succ]
    go_wp2_with fail
    go_ret2
    have k1 := HL.out
    have k2 := key.out
    clear e2 e3 e4 e5 e6 e7 e8 e9 g1 g2 g3 g4 HL key
    exact ⟨div_fin hi lo u b c _ k2.1 (by omega) (by omega), rfl⟩
end Go.Proofs.Ytnjhnejebemflaa
