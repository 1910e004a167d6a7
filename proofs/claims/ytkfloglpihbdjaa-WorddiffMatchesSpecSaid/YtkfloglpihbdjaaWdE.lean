
/-
  The laws' split, and the law that the tokens of a line together are the line, walked.
-/
import Derived.Test.YtkfloglpihbdjaaWdC
import Derived.Test.YtkfloglpihbdjaaWdD
namespace Go.Proofs.Ytkfloglpihbdjaa
open Go.RowKit
set_option maxRecDepth 4000

abbrev wdL : ByteArray := ⟨#[97, 49, 32, 43, 32, 98]⟩
abbrev wdA : ByteArray := ⟨#[97, 49]⟩
abbrev wdS : ByteArray := ⟨#[32]⟩
abbrev wdP : ByteArray := ⟨#[43]⟩
abbrev wdB : ByteArray := ⟨#[98]⟩
theorem tk_wdL : Wd.tk wdL = [wdA, wdS, wdP, wdS, wdB] := by decide
theorem lc_wdL : Lin.lc wdL = 0 := by decide
theorem lit_sts (w : World) (g : Nat) (ss : List ByteArray) (hg : g = w.heap.size) (hs : ∀ s ∈ ss, s.size ≤ 140737488351232) (hl : ss.length ≤ 1000) : Sts (w.alloc (.cells (ss.map strv).toArray 9)) (some ⟨g, 0, none⟩) ss := by
  subst hg
  refine ⟨hs, by omega, (fun h => by cases h), fun _ => ⟨w.heap.size, 0, rfl, by simp, fun i hi => ?_⟩⟩
  rw [Nat.zero_add, World.cell?_alloc_mark]
  simp [strv, List.getD_eq_getElem?_getD, hi]

set_option maxRecDepth 100000 in
set_option maxHeartbeats 4000000 in
theorem split_any (w : World) : Calls Try.prog 12 #[] w (TPost w) := by
  go_enter Try.func12, Try.ntmps12
  go_wp2_with fail
  refine (tokens_any wdL _ (by decide)).mono ?_
  rintro e w1 ⟨v, rfl, own, hb1⟩
  rw [show tL wdL = Wd.tk wdL from if_pos lc_wdL] at own
  rw [lc_wdL]
  obtain ⟨p, cap, rfl, S1, -, -⟩ := toks_open (ownE_ofS own) (by decide)
  rw [tk_wdL] at S1 ⊢
  have b1 := up_alloc (Below.refl w1.heap.size w1) (.cells #[.int .i64 0, .int .i64 0] 24 (0, 0))
  have F1 := Lib.hid (Flt.new w1 0 0 24)
  have T1 := Lib.hid (S1.mono b1)
  have B1 := Lib.hid (hb1.trans (b1.mono hb1.size))
  have L2 := Lib.hid (lit_sts (w1.alloc (.cells #[.int .i64 0, .int .i64 0] 24 (0, 0))) (w1.heap.size + 1) [wdA, wdS, wdP, wdS, wdB] (by simp) (by decide) (by decide))
  have b2 := up_alloc (Below.refl (w1.alloc (.cells #[.int .i64 0, .int .i64 0] 24 (0, 0))).heap.size (w1.alloc (.cells #[.int .i64 0, .int .i64 0] 24 (0, 0)))) (.cells #[.string wdA, .string wdS, .string wdP, .string wdS, .string wdB] 9 (0, 0))
  have T2 := Lib.hid (T1.out.mono b2)
  have B2 := Lib.hid (up_call B1.out b2)
  have f0 := F1.out.c0
  clear own S1 b1 hb1 b2 T1 B1
  go_wp2_with fail
  refine (equal_any p (some ⟨w1.heap.size + 1, 0, none⟩) [wdA, wdS, wdP, wdS, wdB] [wdA, wdS, wdP, wdS, wdB] _ _ cap 5 _ rfl rfl T2.out L2.out).mono ?_
  rintro e w2 ⟨rfl, n, hw⟩
  rw [eqS_true rfl]
  have B3 : Hid (Below w.heap.size w w2) := Lib.hid (by rw [hw]; exact below_drewN B2.out n)
  clear hw
  go_wp2_with fail
  go_ret
  exact ⟨rfl, B3.out⟩

set_option maxRecDepth 100000 in
set_option maxHeartbeats 4000000 in
theorem join_tokens_walk (s : ByteArray) (w : World) (hs : s.size ≤ 140737488351232) :
    Calls Try.prog 4 #[.string s] w (TPost w) := by
  go_enter Try.func4, Try.ntmps4
  go_wp2_with fail
  refine (tokens_any s _ hs).mono ?_
  rintro e w1 ⟨v, rfl, own, hb1⟩
  have b1 := up_alloc (Below.refl w1.heap.size w1) (.cells #[.int .i64 (Lin.lc s), .int .i64 0] 24 (0, 0))
  have F1 := Lib.hid (Flt.new w1 (Lin.lc s) 0 24)
  have B1 := Lib.hid (hb1.trans (b1.mono hb1.size))
  by_cases h1 : Lin.lc s = 0
  · have hsz := (Lin.lc_zero h1).1
    rw [show tL s = Wd.tk s from if_pos h1] at own
    rw [h1] at F1 B1 b1 ⊢
    obtain ⟨p, cap, rfl, S1, -, -⟩ := toks_open (ownE_ofS own) hsz
    have T1 := Lib.hid (S1.mono b1)
    have hl := Wd.tk_len s
    have TP := Lib.hid (Wd.tk_pos s)
    have J := Lib.hid (show Lin.mk (Wd.jo (Wd.tk s)) = s by rw [Wd.jo_tk, Lin.mk_of])
    have hT : (Wd.jo (Wd.tk s)).length ≤ 1000000 := by rw [Wd.jo_tk, Wd.dl]; omega
    obtain ⟨l, hl'⟩ : ∃ l, l = Wd.tk s := ⟨_, rfl⟩
    rw [← hl'] at T1 TP J hT hl ⊢
    have f0 := F1.out.c0
    clear own S1 b1 hb1 h1 hl'
    go_wp2_with fail
    obtain ⟨W, hW⟩ : ∃ W, W = w1.alloc (.cells #[.int .i64 0, .int .i64 0] 24 (0, 0)) := ⟨_, rfl⟩
    rw [← hW] at B1 T1 f0 ⊢
    clear hW
    go_loop [5] (fun i => ∃ k : Nat, k ≤ l.length ∧ i = .int .i64 k) (fun i => l.length - (intOf i).toNat)
    case atStart => exact ⟨0, Nat.zero_le _, rfl⟩
    case round =>
      obtain ⟨k, hk, rfl⟩ := hrel
      by_cases hlt : k < l.length
      · have b7 : (0 : Int) ≤ (k : Int) := by omega
        have b8 : (k : Int) < (l.length : Int) := by omega
        obtain ⟨b, off, rfl, hb, hc⟩ := T1.out.cell hlt
        have hx := TP.out l[k] (List.getElem_mem hlt)
        obtain ⟨x, hx'⟩ : ∃ x, x = l[k] := ⟨_, rfl⟩
        rw [← hx'] at hc hx
        have g1 : x.toList.isEmpty = false := by
          rw [ByteArray.toList_eq]
          have : x.data.toList.length ≠ 0 := by rw [Wd.dl]; omega
          cases h : x.data.toList with
          | nil => rw [h] at this; exact (this rfl).elim
          | cons a r => rfl
        clear hx' hx
        go_wp2_with fail
        go_round
        case rel => exact ⟨k + 1, hlt, by go_num⟩
        case measure => first | (simp [intOf]; done) | (simp [intOf]; omega)
      · obtain rfl : k = l.length := by omega
        go_wp2_with fail
        refine (ltogether_any p l _ cap _ rfl T1.out hT).mono ?_
        rintro e w2 ⟨rfl, rfl⟩
        rw [J.out]
        go_wp2_with fail
        refine (split_any _).mono ?_
        rintro e w3 ⟨rfl, hb3⟩
        have B3 := Lib.hid (up_call B1.out hb3)
        go_wp2_with fail
        go_ret
        exact ⟨rfl, B3.out⟩
  · have hne : (Lin.lc s == 0) = false := by rw [beq_eq_false_iff_ne]; exact h1
    have f0 := F1.out.c0
    clear own b1 hb1
    go_wp2_with fail
    refine (split_any _).mono ?_
    rintro e w3 ⟨rfl, hb3⟩
    have B3 := Lib.hid (up_call B1.out hb3)
    clear hb3 h1
    go_wp2_with fail
    go_ret
    exact ⟨rfl, B3.out⟩
end Go.Proofs.Ytkfloglpihbdjaa
