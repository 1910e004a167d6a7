/-
  The functions of package digest told for every argument; the walks of DigestPairCancels and DigestLastByte.
-/
import Derived.Test.YtholdclfckkidaaDigE
namespace Go.Proofs.Ytholdclfckkidaa
open Go.RowKit Go.Lib

def ofV (l : List Nat) : Int := if l.length ≤ 4096 then (Dig.dof l : Nat) else 0
def ofC (l : List Nat) : Int := if l.length ≤ 4096 then 0 else 2
theorem of_any (p : Option Addr) (l : List Nat) (n cap : Nat) (w : World) (hn : n = l.length) (hp : Bts w p l) :
    Calls Try.prog 9 #[.slice p n cap] w (BPost (.tuple #[.int .i64 (ofV l), .agg #[.int .i64 (ofC l), .int .i64 0]]) w) := by
  by_cases h : l.length ≤ 4096
  · rw [ofV, ofC, if_pos h, if_pos h]; exact of_at p l n cap w hn (by omega) hp
  · rw [ofV, ofC, if_neg h, if_neg h]; exact of_long p n cap (by omega) (by have := hp.len; omega) w

def Dg (a : Int) : Prop := 0 ≤ a ∧ a < 2305843009213693951
instance (a : Int) : Decidable (Dg a) := inferInstanceAs (Decidable (_ ∧ _))
def pV (a b : Int) : Int := if Dg a ∧ Dg b then (Dig.pr a.toNat b.toNat : Nat) else 0
def pC (a b : Int) : Int := if Dg a ∧ Dg b then 0 else 3
def pI (a b : Int) : Int := if Dg a ∧ ¬ Dg b then 1 else 0
theorem pair_any (a b : Int) (w : World) :
    Calls Try.prog 12 #[.int .i64 a, .int .i64 b] w (BPost (.tuple #[.int .i64 (pV a b), .agg #[.int .i64 (pC a b), .int .i64 (pI a b)]]) w) := by
  unfold pV pC pI
  by_cases ha : Dg a
  · by_cases hb : Dg b
    · rw [if_pos ⟨ha, hb⟩, if_pos ⟨ha, hb⟩, if_neg (fun h => h.2 hb)]
      obtain ⟨a0, rfl⟩ := Int.eq_ofNat_of_zero_le ha.1
      obtain ⟨b0, rfl⟩ := Int.eq_ofNat_of_zero_le hb.1
      exact pair_ok a0 b0 (by have := ha.2; omega) (by have := hb.2; omega) w
    · rw [if_neg (fun h => hb h.2), if_neg (fun h => hb h.2), if_pos ⟨ha, hb⟩]
      exact pair_bad1 a b ha.1 ha.2 (by unfold Dg at hb; omega) w
  · rw [if_neg (fun h => ha h.1), if_neg (fun h => ha h.1), if_neg (fun h => ha h.1)]
    exact pair_bad0 a b (by unfold Dg at ha; omega) w

set_option maxHeartbeats 1000000 in
theorem pairCancels_walk (a b c : Int) (w : World) (_ : (Lit.int .i64 a).wf = true) (_ : (Lit.int .i64 b).wf = true) (_ : (Lit.int .i64 c).wf = true) : Calls Try.prog 7 #[.int .i64 a, .int .i64 b, .int .i64 c] w (TPost w) := by
  go_enter Try.func7, Try.ntmps7
  go_wp2_with fail
  refine (pair_any a b _).mono ?_
  rintro e w1 ⟨rfl, hb1⟩
  go_wp2_with fail
  refine (pair_any a c _).mono ?_
  rintro e w2 ⟨rfl, hb2⟩
  have F1 := (Flt.new w1 (pC a b) (pI a b) 25).up hb2
  have u2 := up_call (up_alloc hb1 _) hb2
  clear hb1 hb2
  go_wp2_with fail
  refine (pair_any b a _).mono ?_
  rintro e w3 ⟨rfl, hb3⟩
  have F2 := (Flt.new w2 (pC a c) (pI a c) 25).up hb3
  have F1' := (F1.alloc (.cells #[.int .i64 (pC a c), .int .i64 (pI a c)] 25 (0, 0))).up hb3
  have u3 := up_call (up_alloc u2 _) hb3
  clear u2 F1 hb3
  go_wp2_with fail
  refine (pair_any c a _).mono ?_
  rintro e w4 ⟨rfl, hb4⟩
  have F3 := (Flt.new w3 (pC b a) (pI b a) 25).up hb4
  obtain ⟨c1, -, -, -, l1⟩ := (F1'.alloc (.cells #[.int .i64 (pC b a), .int .i64 (pI b a)] 25 (0, 0))).up hb4
  obtain ⟨c2, -, -, -, l2⟩ := (F2.alloc (.cells #[.int .i64 (pC b a), .int .i64 (pI b a)] 25 (0, 0))).up hb4
  obtain ⟨c3, -, -, -, l3⟩ := F3
  have u4 := Lib.hid (up_call (up_alloc u3 _) hb4)
  clear u3 F1' F2 hb4
  by_cases hall : Dg a ∧ Dg b ∧ Dg c
  · obtain ⟨ha, hb, hc⟩ := hall
    have g1 : (pC a b != 0) = false := by simp [pC, ha, hb]
    have g2 : (pC a c != 0) = false := by simp [pC, ha, hc]
    have g3 : (pC b a != 0) = false := by simp [pC, ha, hb]
    have g4 : (pC c a != 0) = false := by simp [pC, ha, hc]
    by_cases hbc : b = c
    · subst hbc
      go_wp2_with fail
      refine (closed_any _).mono ?_
      rintro e w' ⟨rfl, hb5⟩
      go_wp2_with fail
      go_ret
      refine ⟨rfl, ?_⟩
      exact up_call (up_alloc u4.out _) hb5
    · have h1 : (pV a b == pV a c) = false := by
        rw [beq_eq_false_iff_ne]; simp only [pV, ha, hb, hc, and_self, if_true]
        intro e
        have := (Dig.pr_left a.toNat b.toNat c.toNat (by unfold Dg at hb; omega) (by unfold Dg at hc; omega)) (by omega)
        unfold Dg at hb hc; omega
      have h2 : (pV b a == pV c a) = false := by
        rw [beq_eq_false_iff_ne]; simp only [pV, ha, hb, hc, and_self, if_true]
        intro e
        have := (Dig.pr_right a.toNat b.toNat c.toNat (by unfold Dg at hb; omega) (by unfold Dg at hc; omega)) (by omega)
        unfold Dg at hb hc; omega
      have h3 : (b == c) = false := by rw [beq_eq_false_iff_ne]; exact hbc
      go_wp2_with fail
      refine (closed_any _).mono ?_
      rintro e w' ⟨rfl, hb5⟩
      go_wp2_with fail
      go_ret
      refine ⟨rfl, ?_⟩
      exact up_call (up_alloc u4.out _) hb5
  · have g : (pC a b != 0) = true ∨ ((pC a b != 0) = false ∧ (pC a c != 0) = true) := by
      by_cases h1 : Dg a ∧ Dg b
      · right; simp [pC, h1]; intro h; exact hall ⟨h1.1, h1.2, h⟩
      · left; simp only [pC, if_neg h1]; rfl
    rcases g with g | ⟨g, g'⟩
    all_goals
      go_wp2_with fail
      refine (closed_any _).mono ?_
      rintro e w' ⟨rfl, hb5⟩
      go_wp2_with fail
      go_ret
      refine ⟨rfl, ?_⟩
      exact up_call (up_alloc u4.out _) hb5
end Go.Proofs.Ytholdclfckkidaa
