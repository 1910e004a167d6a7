/-
  The reference's Growth and fits, walked.
-/
import Derived.Test.YtbgnckbgpiajjaaTpC
namespace Go.Proofs.Ytbgnckbgpiajjaa
open Go.RowKit
set_option maxRecDepth 4000


/-- what fits returns -/
noncomputable def fitS (hs : List Tp.H) (p : Option Addr) (n cap : Nat) : Value := if Tp.pC hs = 0 then .slice p n cap else .slice none 0 0
noncomputable def fitC (hs : List Tp.H) : Int := if Tp.pC hs = 0 then 0 else 10
noncomputable def fitI (hs : List Tp.H) : Int := if Tp.pC hs = 0 then 0 else -1
set_option maxHeartbeats 2000000 in
theorem refFits_any (p : Option Addr) (hs : List Tp.H) (n cap : Nat) (w : World) (hn : n = hs.length) (hp : Ptc w p hs) (hl : hs.length ≤ 2513169434845) :
    Calls Try.prog 75 #[.agg #[.slice p n cap]] w (BPost (.tuple #[.agg #[fitS hs p n cap], .agg #[.int .i64 (fitC hs), .int .i64 (fitI hs)]]) w) := by
  subst hn
  have HP := Lib.hid hp
  clear hp
  have hfd := field0
  have up0 : Below w.heap.size w (((w.alloc (.cells #[.slice p hs.length cap] 41 (0, 0))).alloc (.cells #[.slice none 0 0] 41 (0, 0))).alloc (.cells #[.int .i64 0, .int .i64 0] 25 (0, 0))) := up_alloc (up_alloc (up_alloc (Below.refl _ _) _) _) _
  have O0 := Lib.hid (((One.new w (.slice p hs.length cap) 41 w.heap.size rfl).alloc (.cells #[.slice none 0 0] 41 (0, 0))).alloc (.cells #[.int .i64 0, .int .i64 0] 25 (0, 0)))
  have R0 := Lib.hid ((One.new (w.alloc (.cells #[.slice p hs.length cap] 41 (0, 0))) (.slice none 0 0) 41 (w.heap.size + 1) (by simp)).alloc (.cells #[.int .i64 0, .int .i64 0] 25 (0, 0)))
  have F0 : Hid (Flt (((w.alloc (.cells #[.slice p hs.length cap] 41 (0, 0))).alloc (.cells #[.slice none 0 0] 41 (0, 0))).alloc (.cells #[.int .i64 0, .int .i64 0] 25 (0, 0))) (w.heap.size + 1 + 1) 0 0) := by
    have := Flt.new ((w.alloc (.cells #[.slice p hs.length cap] 41 (0, 0))).alloc (.cells #[.slice none 0 0] 41 (0, 0))) 0 0 25
    rw [World.size_alloc, World.size_alloc] at this
    exact this
  go_enter Try.func75, Try.ntmps75
  go_wp2_with fail
  refine (refPatchFault_any p hs _ cap _ rfl (HP.out.mono up0) hl).mono ?_
  rintro e w1 ⟨rfl, hb1⟩
  have u1 := up_call up0 hb1
  have O1 := Lib.hid (O0.out.up hb1)
  have R1 := Lib.hid (R0.out.up hb1)
  have F1 := Lib.hid (F0.out.up hb1)
  clear up0 hb1 O0 R0 F0
  by_cases h : Tp.pC hs = 0
  · have E : Hid (fitS hs p hs.length cap = .slice p hs.length cap ∧ fitC hs = 0 ∧ fitI hs = 0) := Lib.hid ⟨if_pos h, if_pos h, if_pos h⟩
    rw [h]
    clear h
    obtain ⟨dr, d0, d1⟩ := put_both (v := .slice p hs.length cap) F1.out R1.out (by omega) 0 0
    have oc := O1.out.c
    have rc := R1.out.c
    have rf := R1.out.f
    obtain ⟨a0, a1, a2, a3, a4⟩ := F1.out
    go_wp2_with fail
    refine bodyPost_ret (v := .tuple #[.agg #[.slice p hs.length cap], .agg #[.int .i64 0, .int .i64 0]]) (by simp [results, Try.results75, go_sem, d0, d1, dr]) rfl ⟨by rw [E.out.1, E.out.2.1, E.out.2.2], ?_⟩
    (repeat' (first | (with_reducible exact Below.refl _ _) | (with_reducible assumption) | (with_reducible refine below_drewN ?_ _) | (with_reducible refine Below.setCell ?_ ?_ _) | (with_reducible refine Below.alloc ?_ ?_ _) | (with_reducible refine Below.drew ?_) | go_size))
  · have E : Hid (fitS hs p hs.length cap = .slice none 0 0 ∧ fitC hs = 10 ∧ fitI hs = -1) := Lib.hid ⟨if_neg h, if_neg h, if_neg h⟩
    have g1 : (Tp.pC hs != 0) = true := by simpa using h
    clear h
    go_wp2_with fail
    refine (at_any _ _ _).mono ?_
    rintro e w2 ⟨rfl, hb2⟩
    have u2 := up_call u1 hb2
    have R2 := R1.out.up hb2
    have F2 := F1.out.up hb2
    obtain ⟨dr, d0, d1⟩ := put_both (v := .slice none 0 0) F2 R2 (by omega) 10 (-1)
    have rc := R2.c
    have rf := R2.f
    obtain ⟨a0, a1, a2, a3, a4⟩ := F2
    go_wp2_with fail
    refine bodyPost_ret (v := .tuple #[.agg #[.slice none 0 0], .agg #[.int .i64 10, .int .i64 (-1)]]) (by simp [results, Try.results75, go_sem, d0, d1, dr]) rfl ⟨by rw [E.out.1, E.out.2.1, E.out.2.2], ?_⟩
    (repeat' (first | (with_reducible exact Below.refl _ _) | (with_reducible assumption) | (with_reducible refine below_drewN ?_ _) | (with_reducible refine Below.setCell ?_ ?_ _) | (with_reducible refine Below.alloc ?_ ?_ _) | (with_reducible refine Below.drew ?_) | go_size))

namespace Tp
theorem gr_app (l m : List H) : gr (l ++ m) = gr l + gr m := by
  induction l with
  | nil => simp [gr]
  | cons h r ih => simp only [List.cons_append, gr, ih]; omega
theorem gr_next (hs : List H) (k : Nat) (h : k < hs.length) : gr (hs.take (k + 1)) = gr (hs.take k) + ((hs[k].new.length : Int) - hs[k].old.length) := by
  rw [List.take_succ_eq_append_getElem h, gr_app]; simp [gr]
theorem iv_get (hs : List H) : ∀ (n : Int) (k : Nat) (h : k < hs.length) (h' : k < (iv n hs).length), (iv n hs)[k] = ⟨hs[k].at' + n + gr (hs.take k), hs[k].new, hs[k].old⟩ := by
  induction hs with
  | nil => intro n k h; simp at h
  | cons x r ih =>
    intro n k h h'
    cases k with
    | zero => simp [iv, gr]
    | succ k =>
      simp only [iv, List.getElem_cons_succ, List.take_succ_cons, gr]
      rw [ih _ k (by simpa using h)]
      congr 1
      omega
theorem gr_bound (hs : List H) (hv : ∀ h ∈ hs, h.old.length ≤ 120 ∧ h.new.length ≤ 120) : -(120 * hs.length : Int) ≤ gr hs ∧ gr hs ≤ 120 * hs.length := by
  induction hs with
  | nil => simp [gr]
  | cons h r ih =>
    obtain ⟨h1, h2⟩ := ih (fun x hx => hv x (List.mem_cons_of_mem _ hx))
    obtain ⟨h3, h4⟩ := hv h (List.mem_cons_self ..)
    simp only [gr, List.length_cons]
    omega
end Tp
end Go.Proofs.Ytbgnckbgpiajjaa
