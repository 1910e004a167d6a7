/-
  The program's Validate, validResult, walked.
-/
import Derived.Test.YtolpbeemeignaaaTqA
import Derived.Test.YtolpbeemeignaaaTpE
namespace Go.Proofs.Ytolpbeemeignaaa
open Go.RowKit
set_option maxRecDepth 4000

set_option maxRecDepth 100000 in
set_option maxHeartbeats 8000000 in
theorem tpValidate_any (p : Option Addr) (hs : List Tp.H) (n cap : Nat) (w : World) (hn : n = hs.length) (hp : Ptc w p hs) (hl : hs.length ≤ 2513169434845) :
    Calls Try.prog 25 #[.agg #[.slice p n cap]] w (BPost (.agg #[.int .i64 (Tp.pC hs), .int .i64 (Tp.pI hs)]) w) := by
  subst hn
  have HP := Lib.hid hp
  clear hp
  have BX : Hid (Below w.heap.size w ((w.alloc (.cells #[.slice p hs.length cap] 24 (0, 0))).alloc (.cells #[.int .i64 0, .int .i64 0] 26 (0, 0)))) := Lib.hid (up_alloc (up_alloc (Below.refl _ _) _) _)
  have F1 : Hid (Flt ((w.alloc (.cells #[.slice p hs.length cap] 24 (0, 0))).alloc (.cells #[.int .i64 0, .int .i64 0] 26 (0, 0))) (w.heap.size + 1) 0 0) := by
    have := Flt.new (w.alloc (.cells #[.slice p hs.length cap] 24 (0, 0))) 0 0 26
    rwa [World.size_alloc] at this
  by_cases h1 : 130 < hs.length
  · have E : Hid (Tp.pC hs = 2 ∧ Tp.pI hs = -1) := Lib.hid ⟨if_pos h1, if_pos h1⟩
    have g0 : decide ((130 : Int) < (hs.length : Int)) = true := by rw [decide_eq_true_iff]; omega
    clear h1
    go_enter Try.func25, Try.ntmps25
    go_wp2_with fail
    refine bodyPost_ret (v := .agg #[.int .i64 2, .int .i64 (-1)]) (by simp [results, Try.results25, go_sem]) rfl ⟨by rw [E.out.1, E.out.2], ?_⟩
    (repeat' (first | (with_reducible exact Below.refl _ _) | (with_reducible assumption) | (with_reducible refine below_drewN ?_ _) | (with_reducible refine Below.setCell ?_ ?_ _) | (with_reducible refine Below.alloc ?_ ?_ _) | (with_reducible refine Below.drew ?_) | go_size))
  · have E : Hid (Tp.pC hs = (Tp.pf hs 0 (-1)).1 ∧ Tp.pI hs = (Tp.pf hs 0 (-1)).2) := Lib.hid ⟨if_neg h1, if_neg h1⟩
    have g0 : decide ((130 : Int) < (hs.length : Int)) = false := by rw [decide_eq_false_iff_not]; omega
    have h1' : hs.length ≤ 130 := by omega
    clear h1
    go_enter Try.func25, Try.ntmps25
    go_wp2_with fail
    go_loopw [3, 15] (fun pv i wr => ∃ k : Nat, k ≤ hs.length ∧ pv = .int .i64 (pvE hs k) ∧ i = .int .i64 k ∧ Hid (Tp.pf (hs.drop k) k (pvE hs k) = Tp.pf hs 0 (-1)) ∧ Hid (Below w.heap.size w wr) ∧ Hid (Flt wr (w.heap.size + 1) 0 0)) (fun _ i _ => hs.length - (intOf i).toNat)
    case atStart => exact ⟨0, Nat.zero_le _, by rw [pvE_zero], rfl, Lib.hid (by rw [pvE_zero]; rfl), BX, F1⟩
    case round =>
      clear F1 BX
      obtain ⟨k, hk, rfl, rfl, ht, hB, hF⟩ := hrel
      have b0 : (0 : Int) ≤ (k : Int) := by omega
      have hzr := hB.out.size
      by_cases hlt : k < hs.length
      · have g1 : decide (k < hs.length) = true := by simpa using hlt
        have b1 : (k : Int) < (hs.length : Int) := by omega
        obtain ⟨b, off, rfl, hbb, ⟨o1, o2, o3⟩, ⟨n1, n2, n3⟩, c0, c1, c2, r1, r2⟩ := (HP.out.mono hB.out).cell hlt
        have pn := pf_next hs k hlt
        have ps := pvE_succ hs k hlt
        rw [ht.out] at pn
        obtain ⟨⟨z, ol, nl⟩, hx⟩ : ∃ x, x = hs[k] := ⟨_, rfl⟩
        rw [← hx] at c0 r1 r2 pn ps
        obtain ⟨q1, e1, -, -⟩ := r1
        obtain ⟨q2, e2, -, -⟩ := r2
        dsimp only at e1 e2 q1 q2 c0
        subst e1 e2
        simp only [sv] at c1 c2
        have Q1 := Lib.hid q1
        have Q2 := Lib.hid q2
        have PN := Lib.hid pn
        have PS := Lib.hid ps
        have F1 := Lib.hid (hF.out.alloc (.cells #[.int .i64 z, .slice o1 ol.length o3, .slice n1 nl.length n3] 58 (0, 0)))
        have U1 := Lib.hid (Hu.new wr z (.slice o1 ol.length o3) (.slice n1 nl.length n3) 58)
        have v1 := up_alloc hB.out (.cells #[.int .i64 z, .slice o1 ol.length o3, .slice n1 nl.length n3] 58 (0, 0))
        have S1 : Hid (Sts (wr.alloc (.cells #[.int .i64 z, .slice o1 ol.length o3, .slice n1 nl.length n3] 58 (0, 0))) o1 ol) := Lib.hid (Q1.out.mono (up_alloc (Below.refl _ _) _))
        have S2 : Hid (Sts (wr.alloc (.cells #[.int .i64 z, .slice o1 ol.length o3, .slice n1 nl.length n3] 58 (0, 0))) n1 nl) := Lib.hid (Q2.out.mono (up_alloc (Below.refl _ _) _))
        clear pn ps hx q1 q2 ht
        go_wp2_with fail
        refine (hunkCode_any z (pvE hs k) o1 n1 o3 n3 ol nl _ S1.out S2.out).mono ?_
        rintro e w1 ⟨rfl, hb1⟩
        have u1 := up_call v1 hb1
        have F2 := Lib.hid (F1.out.up hb1)
        have U2 := Lib.hid (U1.out.up hb1)
        clear hb1 F1 U1 S1 S2 v1
        by_cases hc : Tp.hC (pvE hs k) ⟨z, ol, nl⟩ = 0
        · have hok := Tp.hC_zero.1 hc
          have z0 := hok.lo
          have z1 := hok.hi
          have z2 := (Lin.vC_zero hok.old).1
          dsimp only at z0 z1 z2
          have NX : Hid (Tp.pf (hs.drop (k + 1)) (k + 1) (pvE hs (k + 1)) = Tp.pf hs 0 (-1)) := Lib.hid (by rw [PN.out, if_pos hc])
          rw [hc]
          clear hc hok
          obtain ⟨y0, y1, y2, y3⟩ := U2.out
          go_wp2_with fail
          refine (end_any z o1 n1 ol.length o3 nl.length n3 _ z0 (by omega) (by omega)).mono ?_
          rintro e w2 ⟨rfl, hb2⟩
          have u2 := up_call u1 hb2
          have F3 := Lib.hid (F2.out.up hb2)
          clear hb2
          go_wp2_with fail
          go_roundw
          case rel => exact ⟨k + 1, hlt, by rw [PS.out]; rfl, by go_num, NX, Lib.hid u2, F3⟩
          case measure => first | (simp [intOf]; done) | (simp [intOf]; omega)
        · have R : Hid (Tp.pf hs 0 (-1) = (Tp.hC (pvE hs k) ⟨z, ol, nl⟩, (k : Int))) := Lib.hid (by rw [PN.out, if_neg hc])
          have g2 : (Tp.hC (pvE hs k) ⟨z, ol, nl⟩ != 0) = true := by simpa using hc
          clear hc
          obtain ⟨d0, d1, -, -, -⟩ := F2.out.set2 (Tp.hC (pvE hs k) ⟨z, ol, nl⟩) (k : Int)
          obtain ⟨a0, a1, a2, a3, a4⟩ := F2.out
          go_wp2_with fail
          refine bodyPost_ret (v := .agg #[.int .i64 (Tp.hC (pvE hs k) ⟨z, ol, nl⟩), .int .i64 (k : Int)]) (by simp [results, Try.results25, go_sem, d0, d1]) rfl ⟨by rw [E.out.1, E.out.2, R.out], ?_⟩
          exact (u1.setCell (by first | omega | (dsimp only; omega)) _).setCell (by first | omega | (dsimp only; omega)) _
      · have hr : Hid (Tp.pf hs 0 (-1) = (0, 0)) := Lib.hid (by rw [← ht.out, List.drop_eq_nil_of_le (by omega)]; rfl)
        have g1 : decide (k < hs.length) = false := by simpa using hlt
        obtain ⟨d0, d1, -, -, -⟩ := hF.out.set2 0 0
        obtain ⟨a0, a1, a2, a3, a4⟩ := hF.out
        have uw := hB.out
        go_wp2_with fail
        refine bodyPost_ret (v := .agg #[.int .i64 0, .int .i64 0]) (by simp [results, Try.results25, go_sem, d0, d1]) rfl ⟨by rw [E.out.1, E.out.2, hr.out], ?_⟩
        exact (uw.setCell (by first | omega | (dsimp only; omega)) _).setCell (by first | omega | (dsimp only; omega)) _

set_option maxHeartbeats 4000000 in
theorem validResult_any (p : Option Addr) (hs : List Tp.H) (n cap : Nat) (w : World) (hn : n = hs.length) (hp : Ptc w p hs) (hl : hs.length ≤ 2513169434845) :
    Calls Try.prog 51 #[.agg #[.slice p n cap]] w (BPost (.tuple #[.agg #[fitS hs p n cap], .agg #[.int .i64 (fitC hs), .int .i64 (fitI hs)]]) w) := by
  subst hn
  have HP := Lib.hid hp
  clear hp
  have hfd := field0
  have up0 : Below w.heap.size w (((w.alloc (.cells #[.slice p hs.length cap] 24 (0, 0))).alloc (.cells #[.slice none 0 0] 24 (0, 0))).alloc (.cells #[.int .i64 0, .int .i64 0] 26 (0, 0))) := up_alloc (up_alloc (up_alloc (Below.refl _ _) _) _) _
  have O0 := Lib.hid (((One.new w (.slice p hs.length cap) 24 w.heap.size rfl).alloc (.cells #[.slice none 0 0] 24 (0, 0))).alloc (.cells #[.int .i64 0, .int .i64 0] 26 (0, 0)))
  have R0 := Lib.hid ((One.new (w.alloc (.cells #[.slice p hs.length cap] 24 (0, 0))) (.slice none 0 0) 24 (w.heap.size + 1) (by simp)).alloc (.cells #[.int .i64 0, .int .i64 0] 26 (0, 0)))
  have F0 : Hid (Flt (((w.alloc (.cells #[.slice p hs.length cap] 24 (0, 0))).alloc (.cells #[.slice none 0 0] 24 (0, 0))).alloc (.cells #[.int .i64 0, .int .i64 0] 26 (0, 0))) (w.heap.size + 1 + 1) 0 0) := by
    have := Flt.new ((w.alloc (.cells #[.slice p hs.length cap] 24 (0, 0))).alloc (.cells #[.slice none 0 0] 24 (0, 0))) 0 0 26
    rw [World.size_alloc, World.size_alloc] at this
    exact this
  go_enter Try.func51, Try.ntmps51
  go_wp2_with fail
  refine (tpValidate_any p hs _ cap _ rfl (HP.out.mono up0) hl).mono ?_
  rintro e w1 ⟨rfl, hb1⟩
  have u1 := up_call up0 hb1
  have O1 := Lib.hid (O0.out.up hb1)
  have R1 := Lib.hid (R0.out.up hb1)
  have F1 := Lib.hid (F0.out.up hb1)
  clear up0 hb1 O0 R0 F0
  by_cases h : Tp.pC hs = 0
  · have E : Hid (fitS hs p hs.length cap = .slice p hs.length cap ∧ fitC hs = 0 ∧ fitI hs = 0) := Lib.hid ⟨if_pos h, if_pos h, if_pos h⟩
    rw [h, Tp.pI_zero h]
    clear h
    obtain ⟨dr, d0, d1⟩ := put_both (v := .slice p hs.length cap) F1.out R1.out (by omega) 0 0
    have oc := O1.out.c
    have rc := R1.out.c
    have rf := R1.out.f
    obtain ⟨a0, a1, a2, a3, a4⟩ := F1.out
    go_wp2_with fail
    refine bodyPost_ret (v := .tuple #[.agg #[.slice p hs.length cap], .agg #[.int .i64 0, .int .i64 0]]) (by simp [results, Try.results51, go_sem, d0, d1, dr]) rfl ⟨by rw [E.out.1, E.out.2.1, E.out.2.2], ?_⟩
    (repeat' (first | (with_reducible exact Below.refl _ _) | (with_reducible assumption) | (with_reducible refine below_drewN ?_ _) | (with_reducible refine Below.setCell ?_ ?_ _) | (with_reducible refine Below.alloc ?_ ?_ _) | (with_reducible refine Below.drew ?_) | go_size))
  · have E : Hid (fitS hs p hs.length cap = .slice none 0 0 ∧ fitC hs = 10 ∧ fitI hs = -1) := Lib.hid ⟨if_neg h, if_neg h, if_neg h⟩
    have h' := h
    obtain ⟨dr, d0, d1⟩ := put_both (v := .slice none 0 0) F1.out R1.out (by omega) 10 (-1)
    have rc := R1.out.c
    have rf := R1.out.f
    obtain ⟨a0, a1, a2, a3, a4⟩ := F1.out
    go_wp2_with fail
    refine bodyPost_ret (v := .tuple #[.agg #[.slice none 0 0], .agg #[.int .i64 10, .int .i64 (-1)]]) (by simp [results, Try.results51, go_sem, d0, d1, dr]) rfl ⟨by rw [E.out.1, E.out.2.1, E.out.2.2], ?_⟩
    (repeat' (first | (with_reducible exact Below.refl _ _) | (with_reducible assumption) | (with_reducible refine below_drewN ?_ _) | (with_reducible refine Below.setCell ?_ ?_ _) | (with_reducible refine Below.alloc ?_ ?_ _) | (with_reducible refine Below.drew ?_) | go_size))
end Go.Proofs.Ytolpbeemeignaaa
