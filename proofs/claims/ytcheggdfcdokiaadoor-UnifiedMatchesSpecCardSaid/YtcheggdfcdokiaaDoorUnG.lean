
/-
  The laws' own check 'shown', walked.
-/
import Derived.Test.YtcheggdfcdokiaaDoorUnF
import Derived.Test.YtcheggdfcdokiaaDoorTpH
namespace Go.Proofs.YtcheggdfcdokiaaDoor
open Go.RowKit
set_option maxRecDepth 4000

abbrev uA : ByteArray := ⟨#[97]⟩
abbrev uB : ByteArray := ⟨#[98]⟩
abbrev uC : ByteArray := ⟨#[99]⟩
def uP : List Tp.H := [⟨1, [uB], [uC]⟩]
theorem u_txt : Lin.Txt [uA, uB] ∧ Lin.Txt [uB] ∧ Lin.Txt [uC] := by
  refine ⟨⟨by decide, ?_⟩, ⟨by decide, ?_⟩, ⟨by decide, ?_⟩⟩ <;>
    (intro s hs; simp only [List.mem_cons, List.not_mem_nil, or_false] at hs; first | (subst hs; rfl) | (rcases hs with rfl | rfl <;> rfl))
theorem u_ap : Tp.ap [uA, uB] 0 uP = [uA, uC] := rfl
theorem u_apply : Tp.aC uP [uA, uB] = 0 := by
  obtain ⟨h1, h2, h3⟩ := u_txt
  exact Tp.aC_zero.2 ⟨⟨by decide, ⟨⟨by decide, by decide, Lin.vC_txt h2, Lin.vC_txt h3, by decide, by decide, by decide⟩, trivial⟩⟩, Lin.vC_txt h1, fun h hh => by rw [List.mem_singleton.1 hh]; exact ⟨by decide, by decide, rfl⟩, by rw [u_ap]; decide⟩
theorem u_fold : Tp.gfold 1 none [] uP = [uP] := rfl
theorem u_lo : Tp.loF 1 uP = 0 := rfl
theorem u_hi : Tp.hiF [uA, uB] 1 uP = 2 := rfl
theorem u_gr : Tp.gr uP = 0 := rfl
theorem u_wg : wgB [uA, uB] 0 uP 2 = [32, 97, 10, 45, 98, 10, 43, 99, 10] := rfl
theorem u_rg : rgB 0 2 = [49, 44, 50] := by
  unfold rgB
  rw [if_pos (by decide), Lib.decDigits_one (by decide), Lib.decDigits_one (by decide)]; rfl
theorem u_fm : fmB [uA, uB] 1 0 (Tp.gfold 1 none [] uP) = [64, 64, 32, 45, 49, 44, 50, 32, 43, 49, 44, 50, 32, 64, 64, 10, 32, 97, 10, 45, 98, 10, 43, 99, 10] := by
  rw [u_fold]
  unfold fmB
  rw [u_lo, u_hi, u_gr, u_wg]
  unfold hdB
  rw [show (((0 : Nat) : Int) + 0).toNat = 0 from rfl, show (((2 : Nat) : Int) + (0 + 0)).toNat = 2 from rfl, u_rg]
  rfl
theorem u_ok : FmOk 100 [uA, uB] 1 0 (Tp.gfold 1 none [] uP) := by
  rw [u_fold]
  refine ⟨⟨by simp [uP], ?_, by rw [u_lo, u_hi]; decide, by rw [u_lo]; decide, by rw [u_lo, u_hi, u_gr]; decide, by rw [u_hi]; decide, by rw [u_hi, u_gr]; decide, by decide, ?_, by rw [u_lo, u_hi, u_wg]; decide⟩, trivial⟩
  · rw [u_lo, u_hi]
    refine ⟨⟨by decide, by decide, by decide, fun s hs => ?_, fun s hs => ?_, by decide, by decide⟩, by decide, by decide⟩
    · rw [List.mem_singleton.1 hs]; decide
    · rw [List.mem_singleton.1 hs]; decide
  · intro h hh
    rw [List.mem_singleton.1 hh]; decide
theorem u_res : fmC [uA, uB] uP 1 = 0 ∧ fmI [uA, uB] uP 1 = 0 ∧ fmS [uA, uB] uP 1 = ⟨#[64, 64, 32, 45, 49, 44, 50, 32, 43, 49, 44, 50, 32, 64, 64, 10, 32, 97, 10, 45, 98, 10, 43, 99, 10]⟩ := by
  obtain ⟨h1, h2, h3⟩ := fm_ok (c := 1) u_apply (by decide) (by rw [u_fm]; decide)
  exact ⟨h1, h2, by rw [h3, u_fm]; rfl⟩

/-- a list of strings that was just laid -/
theorem sts_lay (w : World) (g : Nat) (ss : List ByteArray) (hg : g = w.heap.size) (hs : ∀ s ∈ ss, s.size ≤ 140737488351232) (hl : ss.length ≤ 1000) : Sts (w.alloc (.cells (ss.map strv).toArray 9)) (some ⟨g, 0, none⟩) ss := by
  subst hg
  refine ⟨hs, by omega, (fun h => by cases h), fun _ => ⟨w.heap.size, 0, rfl, by simp, fun i hi => ?_⟩⟩
  rw [Nat.zero_add, World.cell?_alloc_mark]
  simp [strv, List.getD_eq_getElem?_getD, hi]
theorem rd_lay (w : World) (g : Nat) (ss : List ByteArray) (hg : g = w.heap.size) (hs : ∀ s ∈ ss, s.size ≤ 140737488351232) (hl : ss.length ≤ 1000) : Rd (w.alloc (.cells (ss.map strv).toArray 9)) (some ⟨g, 0, none⟩, ss.length, ss.length) ss :=
  ⟨sts_lay w g ss hg hs hl, rfl, (fun h => by cases h), Nat.le_refl _⟩
theorem u_small (ss : List ByteArray) (h : ∀ s ∈ ss, s = uA ∨ s = uB ∨ s = uC) : ∀ s ∈ ss, s.size ≤ 140737488351232 := fun s hs => by
  rcases h s hs with rfl | rfl | rfl <;> decide

set_option maxRecDepth 100000 in
set_option maxHeartbeats 3000000 in
theorem shown_any (w : World) : Calls Tryd.prog 10 #[] w (TPost w) := by
  have S1 := Lib.hid (sts_lay w w.heap.size [uA, uB] rfl (u_small _ (by simp)) (by decide))
  have S2 := Lib.hid (rd_lay (w.alloc (.cells #[.string uA, .string uB] 9 (0, 0))) (w.heap.size + 1) [uB] (by simp) (u_small _ (by simp)) (by decide))
  have S3 := Lib.hid (rd_lay ((w.alloc (.cells #[.string uA, .string uB] 9 (0, 0))).alloc (.cells #[.string uB] 9 (0, 0))) (w.heap.size + 1 + 1) [uC] (by simp) (u_small _ (by simp)) (by decide))
  have u0 := Lib.hid (up_alloc (up_alloc (up_alloc (Below.refl w.heap.size w) (.cells #[.string uA, .string uB] 9 (0, 0))) (.cells #[.string uB] 9 (0, 0))) (.cells #[.string uC] 9 (0, 0)))
  go_enter Tryd.func10, Tryd.ntmps10
  go_wp2_with fail
  have HC := hunk_any 1 (some ⟨w.heap.size + 1, 0, none⟩, 1, 1) (some ⟨w.heap.size + 1 + 1, 0, none⟩, 1, 1) [uB] [uC] (((w.alloc (.cells #[.string uA, .string uB] 9 (0, 0))).alloc (.cells #[.string uB] 9 (0, 0))).alloc (.cells #[.string uC] 9 (0, 0))) (S2.out.mono (up_alloc (Below.refl _ _) _)) S3.out
  refine Calls.mono HC ?_
  clear HC
  rintro e w1 ⟨p, rfl, hp, hpn, hb1⟩
  have U1 := Lib.hid (up_call u0.out hb1)
  have T1 := Lib.hid ((S1.out.mono (up_alloc (up_alloc (Below.refl _ _) (.cells #[.string uB] 9 (0, 0))) (.cells #[.string uC] 9 (0, 0)))).mono hb1)
  have P1 := Lib.hid hp
  clear hb1 hp
  go_wp2_with fail
  have FC := format_any 100 p (some ⟨w.heap.size, 0, none⟩) uP [uA, uB] 1 2 1 w1 (itoa_small w1) (by decide) P1.out (by decide) T1.out (fun h => by cases h) (by decide) (fun _ _ => ⟨u_ok, by decide⟩)
  rw [u_res.1, u_res.2.1, u_res.2.2] at FC
  refine Calls.mono FC ?_
  clear FC
  rintro e w2 ⟨rfl, hb2⟩
  have U2 := Lib.hid (up_alloc (up_call U1.out hb2) (.cells #[.int .i64 0, .int .i64 0] 27 (0, 0)))
  clear hb2
  go_wp2_with fail
  go_ret
  exact ⟨rfl, U2.out⟩
end Go.Proofs.YtcheggdfcdokiaaDoor
