
/-
  The program's textpatch: end, changed, hunkCode, walked.
  The program's Validate, validResult, walked.
  The program's occurs and Apply, walked.
-/
import Derived.Test.YtcheggdfcdokiaaDoorTpB
import Derived.IntWalk
import Derived.Test.YtcheggdfcdokiaaDoorTpE
import Derived.Test.YtcheggdfcdokiaaDoorTpA
import Derived.Test.YtcheggdfcdokiaaDoorOver
import Derived.Deep.RegionHeld3
namespace Go.Proofs.YtcheggdfcdokiaaDoor
open Go.RowKit
set_option maxRecDepth 4000

theorem end_any (z : Int) (o1 n1 : Option Addr) (o2 o3 n2 n3 : Nat) (w : World) (h1 : 0 ≤ z) (h2 : z ≤ 1000000) (h3 : o2 ≤ 281474976710656) :
    Calls Tryd.prog 34 #[.agg #[.int .i64 z, .slice o1 o2 o3, .slice n1 n2 n3]] w (BPost (.int .i64 (z + (o2 : Int))) w) := by
  have wz : IntKind.i64.wrap (z + (o2 : Int)) = z + (o2 : Int) := IntWalk.i64_in _ (by omega)
  go_enter Tryd.func34, Tryd.ntmps34
  go_wp2_with fail
  go_ret
  exact ⟨rfl, up_alloc (Below.refl _ _) _⟩

theorem changed_lines (z : Int) (o1 n1 : Option Addr) (o2 o3 n2 n3 : Nat) (w : World) (h3 : o2 ≤ 281474976710656) (h4 : n2 ≤ 281474976710656) :
    Calls Tryd.prog 48 #[.agg #[.int .i64 z, .slice o1 o2 o3, .slice n1 n2 n3]] w (BPost (.int .i64 ((o2 : Int) + (n2 : Int))) w) := by
  have wz : IntKind.i64.wrap ((o2 : Int) + (n2 : Int)) = (o2 : Int) + (n2 : Int) := IntWalk.i64_in _ (by omega)
  go_enter Tryd.func48, Tryd.ntmps48
  go_wp2_with fail
  go_ret
  exact ⟨rfl, up_alloc (Below.refl _ _) _⟩

set_option maxRecDepth 100000 in
set_option maxHeartbeats 8000000 in
theorem hunkCode_any (z prev : Int) (o1 n1 : Option Addr) (o3 n3 : Nat) (ol nl : List ByteArray) (w : World) (q1 : Sts w o1 ol) (q2 : Sts w n1 nl) :
    Calls Tryd.prog 39 #[.agg #[.int .i64 z, .slice o1 ol.length o3, .slice n1 nl.length n3], .int .i64 prev] w (BPost (.int .i64 (Tp.hC prev ⟨z, ol, nl⟩)) w) := by
  have Q1 := Lib.hid q1
  have Q2 := Lib.hid q2
  clear q1 q2
  have U0 := Lib.hid (Hu.new w z (.slice o1 ol.length o3) (.slice n1 nl.length n3) 46)
  have u0 := up_alloc (Below.refl w.heap.size w) (.cells #[.int .i64 z, .slice o1 ol.length o3, .slice n1 nl.length n3] 46 (0, 0))
  by_cases hz0 : z < 0
  · have gz : decide (z < 0) = true := by simpa using hz0
    have E := Lib.hid (hC_at (prev := prev) (h := ⟨z, ol, nl⟩) (.inl hz0))
    go_enter Tryd.func39, Tryd.ntmps39
    go_wp2_with fail
    go_ret
    refine ⟨by rw [E.out]; rfl, ?_⟩
    (repeat' (first | (with_reducible exact Below.refl _ _) | (with_reducible assumption) | (with_reducible refine below_drewN ?_ _) | (with_reducible refine Below.setCell ?_ ?_ _) | (with_reducible refine Below.alloc ?_ ?_ _) | (with_reducible refine Below.drew ?_) | go_size))
  · have gz : decide (z < 0) = false := by simpa using hz0
    by_cases hz1 : 120 < z
    · have gz1 : decide (120 < z) = true := by simpa using hz1
      have E := Lib.hid (hC_at (prev := prev) (h := ⟨z, ol, nl⟩) (.inr hz1))
      go_enter Tryd.func39, Tryd.ntmps39
      go_wp2_with fail
      go_ret
      refine ⟨by rw [E.out]; rfl, ?_⟩
      (repeat' (first | (with_reducible exact Below.refl _ _) | (with_reducible assumption) | (with_reducible refine below_drewN ?_ _) | (with_reducible refine Below.setCell ?_ ?_ _) | (with_reducible refine Below.alloc ?_ ?_ _) | (with_reducible refine Below.drew ?_) | go_size))
    · have gz1 : decide (120 < z) = false := by simpa using hz1
      have hz : ¬ (z < 0 ∨ 120 < z) := by omega
      have HZ := Lib.hid hz
      clear hz
      have we : ol.length ≤ 120 → IntKind.i64.wrap (z + (ol.length : Int)) = z + (ol.length : Int) := fun _ => IntWalk.i64_in _ (by omega)
      go_enter Tryd.func39, Tryd.ntmps39
      go_wp2_with fail
      refine (validate_any o1 ol _ _ _ rfl (Q1.out.mono u0)).mono ?_
      rintro e w1 ⟨rfl, hb1⟩
      have u1 := up_call u0 hb1
      have U1 := Lib.hid (U0.out.up hb1)
      clear hb1 U0 u0
      by_cases ho : Lin.vC ol = 0
      · have HO := Lib.hid ho
        have lo := (Lin.vC_zero ho).1
        have e2 := Lin.vI_zero ho
        rw [ho, e2]
        clear ho e2
        have U2 := Lib.hid (U1.out.up (up_alloc (Below.refl _ _) (.cells #[.int .i64 0, .int .i64 0] 27 (0, 0))))
        have u2 := up_alloc u1 (.cells #[.int .i64 0, .int .i64 0] 27 (0, 0))
        obtain ⟨y0, y1, y2, y3⟩ := U1.out
        go_wp2_with fail
        refine (validate_any n1 nl _ _ _ rfl (Q2.out.mono u2)).mono ?_
        rintro e w3 ⟨rfl, hb3⟩
        have u3 := up_call u2 hb3
        have U3 := Lib.hid (U2.out.up hb3)
        clear hb3 U1 U2 u1 u2 y0 y1 y2 y3
        by_cases hnw : Lin.vC nl = 0
        · have HN := Lib.hid hnw
          have ln := (Lin.vC_zero hnw).1
          have e3 := Lin.vI_zero hnw
          rw [hnw, e3]
          clear hnw e3
          have U4 := Lib.hid (U3.out.up (up_alloc (Below.refl _ _) (.cells #[.int .i64 0, .int .i64 0] 27 (0, 0))))
          have u4 := up_alloc u3 (.cells #[.int .i64 0, .int .i64 0] 27 (0, 0))
          obtain ⟨y0, y1, y2, y3⟩ := U3.out
          go_wp2_with fail
          refine (changed_lines z o1 n1 ol.length o3 nl.length n3 _ (by omega) (by omega)).mono ?_
          rintro e w5 ⟨rfl, hb5⟩
          have u5 := up_call u4 hb5
          have U5 := Lib.hid (U4.out.up hb5)
          clear hb5 U3 U4 u3 u4 y0 y1 y2 y3
          by_cases hsum : ol.length + nl.length = 0
          · have gs : ((ol.length : Int) + (nl.length : Int) == 0) = true := by rw [beq_iff_eq]; omega
            have R := Lib.hid (hC_mal (prev := prev) (h := ⟨z, ol, nl⟩) HZ.out HO.out HN.out (.inl hsum))
            go_wp2_with fail
            go_ret
            refine ⟨by rw [R.out]; rfl, ?_⟩
            (repeat' (first | (with_reducible exact Below.refl _ _) | (with_reducible assumption) | (with_reducible refine below_drewN ?_ _) | (with_reducible refine Below.setCell ?_ ?_ _) | (with_reducible refine Below.alloc ?_ ?_ _) | (with_reducible refine Below.drew ?_) | go_size))
          · have gs : ((ol.length : Int) + (nl.length : Int) == 0) = false := by rw [beq_eq_false_iff_ne]; omega
            obtain ⟨y0, y1, y2, y3⟩ := U5.out
            by_cases hpv : z ≤ prev
            · have gp : decide (z ≤ prev) = true := by simpa using hpv
              have R := Lib.hid (hC_mal (prev := prev) (h := ⟨z, ol, nl⟩) HZ.out HO.out HN.out (.inr hpv))
              go_wp2_with fail
              go_ret
              refine ⟨by rw [R.out]; rfl, ?_⟩
              (repeat' (first | (with_reducible exact Below.refl _ _) | (with_reducible assumption) | (with_reducible refine below_drewN ?_ _) | (with_reducible refine Below.setCell ?_ ?_ _) | (with_reducible refine Below.alloc ?_ ?_ _) | (with_reducible refine Below.drew ?_) | go_size))
            · have gp : decide (z ≤ prev) = false := by simpa using hpv
              have NE : Hid (¬ (ol.length + nl.length = 0 ∨ z ≤ prev)) := Lib.hid (by omega)
              go_wp2_with fail
              refine (end_any z o1 n1 ol.length o3 nl.length n3 _ (by omega) (by omega) (by omega)).mono ?_
              rintro e w6 ⟨rfl, hb6⟩
              have u6 := up_call u5 hb6
              by_cases hen : 120 < z + (ol.length : Int)
              · have ge : decide (120 < z + (ol.length : Int)) = true := by simpa using hen
                have R := Lib.hid (hC_end (prev := prev) (h := ⟨z, ol, nl⟩) HZ.out HO.out HN.out NE.out hen)
                go_wp2_with fail
                go_ret
                refine ⟨by rw [R.out]; rfl, ?_⟩
                (repeat' (first | (with_reducible exact Below.refl _ _) | (with_reducible assumption) | (with_reducible refine below_drewN ?_ _) | (with_reducible refine Below.setCell ?_ ?_ _) | (with_reducible refine Below.alloc ?_ ?_ _) | (with_reducible refine Below.drew ?_) | go_size))
              · have ge : decide (120 < z + (ol.length : Int)) = false := by simpa using hen
                have R := Lib.hid (hC_ok (prev := prev) (h := ⟨z, ol, nl⟩) HZ.out HO.out HN.out NE.out hen)
                go_wp2_with fail
                go_ret
                refine ⟨by rw [R.out]; rfl, ?_⟩
                (repeat' (first | (with_reducible exact Below.refl _ _) | (with_reducible assumption) | (with_reducible refine below_drewN ?_ _) | (with_reducible refine Below.setCell ?_ ?_ _) | (with_reducible refine Below.alloc ?_ ?_ _) | (with_reducible refine Below.drew ?_) | go_size))
        · have R := Lib.hid (hC_new (prev := prev) (h := ⟨z, ol, nl⟩) HZ.out HO.out hnw)
          have HN := Lib.hid hnw
          have hz3 := u3.size
          have F4 := Lib.hid (Flt.new w3 (Lin.vC nl) (Lin.vI nl) 27)
          obtain ⟨a0, a1, a2, a3, a4⟩ := F4.out
          go_wp2_with fail
          go_ret
          refine ⟨by rw [R.out]; rfl, ?_⟩
          (repeat' (first | (with_reducible exact Below.refl _ _) | (with_reducible assumption) | (with_reducible refine below_drewN ?_ _) | (with_reducible refine Below.setCell ?_ ?_ _) | (with_reducible refine Below.alloc ?_ ?_ _) | (with_reducible refine Below.drew ?_) | go_size))
      · have R := Lib.hid (hC_old (prev := prev) (h := ⟨z, ol, nl⟩) HZ.out ho)
        have hz3 := u1.size
        have F4 := Lib.hid (Flt.new w1 (Lin.vC ol) (Lin.vI ol) 27)
        obtain ⟨a0, a1, a2, a3, a4⟩ := F4.out
        go_wp2_with fail
        go_ret
        refine ⟨by rw [R.out]; rfl, ?_⟩
        (repeat' (first | (with_reducible exact Below.refl _ _) | (with_reducible assumption) | (with_reducible refine below_drewN ?_ _) | (with_reducible refine Below.setCell ?_ ?_ _) | (with_reducible refine Below.alloc ?_ ?_ _) | (with_reducible refine Below.drew ?_) | go_size))
end Go.Proofs.YtcheggdfcdokiaaDoor
namespace Go.Proofs.YtcheggdfcdokiaaDoor
open Go.RowKit

set_option maxRecDepth 100000 in
set_option maxHeartbeats 8000000 in
theorem tpValidate_any (p : Option Addr) (hs : List Tp.H) (n cap : Nat) (w : World) (hn : n = hs.length) (hp : Ptc w p hs) (hl : hs.length ≤ 2513169434845) :
    Calls Tryd.prog 24 #[.agg #[.slice p n cap]] w (BPost (.agg #[.int .i64 (Tp.pC hs), .int .i64 (Tp.pI hs)]) w) := by
  subst hn
  have HP := Lib.hid hp
  clear hp
  have BX : Hid (Below w.heap.size w ((w.alloc (.cells #[.slice p hs.length cap] 25 (0, 0))).alloc (.cells #[.int .i64 0, .int .i64 0] 27 (0, 0)))) := Lib.hid (up_alloc (up_alloc (Below.refl _ _) _) _)
  have F1 : Hid (Flt ((w.alloc (.cells #[.slice p hs.length cap] 25 (0, 0))).alloc (.cells #[.int .i64 0, .int .i64 0] 27 (0, 0))) (w.heap.size + 1) 0 0) := by
    have := Flt.new (w.alloc (.cells #[.slice p hs.length cap] 25 (0, 0))) 0 0 27
    rwa [World.size_alloc] at this
  by_cases h1 : 130 < hs.length
  · have E : Hid (Tp.pC hs = 2 ∧ Tp.pI hs = -1) := Lib.hid ⟨if_pos h1, if_pos h1⟩
    have g0 : decide ((130 : Int) < (hs.length : Int)) = true := by rw [decide_eq_true_iff]; omega
    clear h1
    go_enter Tryd.func24, Tryd.ntmps24
    go_wp2_with fail
    refine bodyPost_ret (v := .agg #[.int .i64 2, .int .i64 (-1)]) (by simp [results, Tryd.results24, go_sem]) rfl ⟨by rw [E.out.1, E.out.2], ?_⟩
    (repeat' (first | (with_reducible exact Below.refl _ _) | (with_reducible assumption) | (with_reducible refine below_drewN ?_ _) | (with_reducible refine Below.setCell ?_ ?_ _) | (with_reducible refine Below.alloc ?_ ?_ _) | (with_reducible refine Below.drew ?_) | go_size))
  · have E : Hid (Tp.pC hs = (Tp.pf hs 0 (-1)).1 ∧ Tp.pI hs = (Tp.pf hs 0 (-1)).2) := Lib.hid ⟨if_neg h1, if_neg h1⟩
    have g0 : decide ((130 : Int) < (hs.length : Int)) = false := by rw [decide_eq_false_iff_not]; omega
    have h1' : hs.length ≤ 130 := by omega
    clear h1
    go_enter Tryd.func24, Tryd.ntmps24
    go_wp2_with fail
    go_loopw [3, 15] (fun pv i wr => ∃ k : Nat, k ≤ hs.length ∧ pv = .int .i64 (pvE hs k) ∧ i = .int .i64 k ∧ Hid (Tp.pf (hs.drop k) k (pvE hs k) = Tp.pf hs 0 (-1)) ∧ Hid (Below w.heap.size w wr) ∧ Hid (Flt wr (w.heap.size + 1) 0 0)) (fun _ i _ => hs.length - (intOf i).toNat)
    case atStart => exact ⟨0, Nat.zero_le _, by rw [pvE_zero], rfl, Lib.hid (by rw [pvE_zero]; rfl), BX, F1⟩
    case round =>
      clear F1 BX
      obtain ⟨k, hk, rfl, rfl, ht, hB, hF⟩ := hrel
      have b0 : (0 : Int) ≤ (k : Int) := by omega
      have hzr := hB.out.size
      by_cases hlt : k < hs.length
      · have g1 : decide (k < hs.length) = true := by simpa using hlt
        have b1 : (k : Int) < (hs.length : Int) := by omega
        obtain ⟨b, off, rfl, hbb, ⟨o1, o2, o3⟩, ⟨n1, n2, n3⟩, c0, c1, c2, r1, r2⟩ := (HP.out.mono hB.out).cell hlt
        have pn := pf_next hs k hlt
        have ps := pvE_succ hs k hlt
        rw [ht.out] at pn
        obtain ⟨⟨z, ol, nl⟩, hx⟩ : ∃ x, x = hs[k] := ⟨_, rfl⟩
        rw [← hx] at c0 r1 r2 pn ps
        obtain ⟨q1, e1, -, -⟩ := r1
        obtain ⟨q2, e2, -, -⟩ := r2
        dsimp only at e1 e2 q1 q2 c0
        subst e1 e2
        simp only [sv] at c1 c2
        have Q1 := Lib.hid q1
        have Q2 := Lib.hid q2
        have PN := Lib.hid pn
        have PS := Lib.hid ps
        have F1 := Lib.hid (hF.out.alloc (.cells #[.int .i64 z, .slice o1 ol.length o3, .slice n1 nl.length n3] 46 (0, 0)))
        have U1 := Lib.hid (Hu.new wr z (.slice o1 ol.length o3) (.slice n1 nl.length n3) 46)
        have v1 := up_alloc hB.out (.cells #[.int .i64 z, .slice o1 ol.length o3, .slice n1 nl.length n3] 46 (0, 0))
        have S1 : Hid (Sts (wr.alloc (.cells #[.int .i64 z, .slice o1 ol.length o3, .slice n1 nl.length n3] 46 (0, 0))) o1 ol) := Lib.hid (Q1.out.mono (up_alloc (Below.refl _ _) _))
        have S2 : Hid (Sts (wr.alloc (.cells #[.int .i64 z, .slice o1 ol.length o3, .slice n1 nl.length n3] 46 (0, 0))) n1 nl) := Lib.hid (Q2.out.mono (up_alloc (Below.refl _ _) _))
        clear pn ps hx q1 q2 ht
        go_wp2_with fail
        refine (hunkCode_any z (pvE hs k) o1 n1 o3 n3 ol nl _ S1.out S2.out).mono ?_
        rintro e w1 ⟨rfl, hb1⟩
        have u1 := up_call v1 hb1
        have F2 := Lib.hid (F1.out.up hb1)
        have U2 := Lib.hid (U1.out.up hb1)
        clear hb1 F1 U1 S1 S2 v1
        by_cases hc : Tp.hC (pvE hs k) ⟨z, ol, nl⟩ = 0
        · have hok := Tp.hC_zero.1 hc
          have z0 := hok.lo
          have z1 := hok.hi
          have z2 := (Lin.vC_zero hok.old).1
          dsimp only at z0 z1 z2
          have NX : Hid (Tp.pf (hs.drop (k + 1)) (k + 1) (pvE hs (k + 1)) = Tp.pf hs 0 (-1)) := Lib.hid (by rw [PN.out, if_pos hc])
          rw [hc]
          clear hc hok
          obtain ⟨y0, y1, y2, y3⟩ := U2.out
          go_wp2_with fail
          refine (end_any z o1 n1 ol.length o3 nl.length n3 _ z0 (by omega) (by omega)).mono ?_
          rintro e w2 ⟨rfl, hb2⟩
          have u2 := up_call u1 hb2
          have F3 := Lib.hid (F2.out.up hb2)
          clear hb2
          go_wp2_with fail
          go_roundw
          case rel => exact ⟨k + 1, hlt, by rw [PS.out]; rfl, by go_num, NX, Lib.hid u2, F3⟩
          case measure => first | (simp [intOf]; done) | (simp [intOf]; omega)
        · have R : Hid (Tp.pf hs 0 (-1) = (Tp.hC (pvE hs k) ⟨z, ol, nl⟩, (k : Int))) := Lib.hid (by rw [PN.out, if_neg hc])
          have g2 : (Tp.hC (pvE hs k) ⟨z, ol, nl⟩ != 0) = true := by simpa using hc
          clear hc
          obtain ⟨d0, d1, -, -, -⟩ := F2.out.set2 (Tp.hC (pvE hs k) ⟨z, ol, nl⟩) (k : Int)
          obtain ⟨a0, a1, a2, a3, a4⟩ := F2.out
          go_wp2_with fail
          refine bodyPost_ret (v := .agg #[.int .i64 (Tp.hC (pvE hs k) ⟨z, ol, nl⟩), .int .i64 (k : Int)]) (by simp [results, Tryd.results24, go_sem, d0, d1]) rfl ⟨by rw [E.out.1, E.out.2, R.out], ?_⟩
          exact (u1.setCell (by first | omega | (dsimp only; omega)) _).setCell (by first | omega | (dsimp only; omega)) _
      · have hr : Hid (Tp.pf hs 0 (-1) = (0, 0)) := Lib.hid (by rw [← ht.out, List.drop_eq_nil_of_le (by omega)]; rfl)
        have g1 : decide (k < hs.length) = false := by simpa using hlt
        obtain ⟨d0, d1, -, -, -⟩ := hF.out.set2 0 0
        obtain ⟨a0, a1, a2, a3, a4⟩ := hF.out
        have uw := hB.out
        go_wp2_with fail
        refine bodyPost_ret (v := .agg #[.int .i64 0, .int .i64 0]) (by simp [results, Tryd.results24, go_sem, d0, d1]) rfl ⟨by rw [E.out.1, E.out.2, hr.out], ?_⟩
        exact (uw.setCell (by first | omega | (dsimp only; omega)) _).setCell (by first | omega | (dsimp only; omega)) _

end Go.Proofs.YtcheggdfcdokiaaDoor
namespace Go.Proofs.YtcheggdfcdokiaaDoor
open Go.RowKit

set_option maxHeartbeats 1000000 in
theorem slicesEqual_any (p q : Option Addr) (l m : List ByteArray) (n k cap cap' : Nat) (w : World) (hn : n = l.length) (hk : k = m.length) (hp : Sts w p l) (hq : Sts w q m) :
    Calls Tryd.prog 44 #[.slice p n cap, .slice q k cap'] w (QPost (.bool (eqS l m)) w) := by
  subst hn hk
  have hl1 := hp.len
  have hl2 := hq.len
  by_cases hlen : l.length = m.length
  · have g0 : ((l.length : Int) != (m.length : Int)) = false := by simp [hlen]
    have g0' : (l.length != m.length) = false := by simp [hlen]
    have HL := Lib.hid hlen
    have HP := Lib.hid hp
    have HQ := Lib.hid hq
    clear hlen hp hq
    go_enter Tryd.func44, Tryd.ntmps44
    go_wp2
    go_loopw [13] (fun i wr => ∃ k n : Nat, k ≤ l.length ∧ i = .int .i64 k ∧ wr = w.drewN n ∧ Hid (l.take k = m.take k)) (fun i _ => l.length - (intOf i).toNat)
    case atStart => exact ⟨0, 0, Nat.zero_le _, rfl, rfl, Lib.hid rfl⟩
    case round =>
      obtain ⟨k, n, hk, rfl, hw, ht⟩ := hrel
      have HW := Lib.hid hw
      clear hw
      by_cases hlt : k < l.length
      · have hlt2 : k < m.length := by have := HL.out; omega
        obtain ⟨b, off, rfl, hb, hc⟩ := HP.out.cell hlt
        obtain ⟨b', off', rfl, hb', hc'⟩ := HQ.out.cell hlt2
        have h1 : wr.cell? ⟨b, off + k, none⟩ = some (.string l[k]) := by rw [HW.out, World.cell?_drewN, hc]
        have h2 : wr.cell? ⟨b', off' + k, none⟩ = some (.string m[k]) := by rw [HW.out, World.cell?_drewN, hc']
        have b7 : (0 : Int) ≤ (k : Int) := by omega
        have b8 : (k : Int) < (l.length : Int) := by omega
        have b9 : (k : Int) < (m.length : Int) := by omega
        have hn := take_next ht.out hlt hlt2
        obtain ⟨x, hx⟩ : ∃ x, x = l[k] := ⟨_, rfl⟩
        obtain ⟨y, hy⟩ : ∃ y, y = m[k] := ⟨_, rfl⟩
        rw [← hx] at h1 hn
        rw [← hy] at h2 hn
        by_cases he : x = y
        · have HN := Lib.hid (hn he)
          subst he
          clear hc hc' hx hy hn
          go_wp2_with fail
          go_quiet (fail)
          go_wp2_with fail
          go_roundw
          case rel => exact ⟨k + 1, _, by omega, by go_num, by rw [HW.out, World.drewN_drewN], HN⟩
          case measure => simp [intOf]; omega
        · have hne : eqS l m = false := eqS_false (fun e => he (by rw [hx, hy]; congr 1))
          have e1 := tl_false he
          have HE := Lib.hid hne
          clear hc hc' hx hy hn hne he
          go_wp2_with fail
          go_quiet (fail)
          go_wp2_with fail
          go_ret
          exact ⟨by rw [HE.out]; rfl, _, by rw [HW.out, World.drewN_drewN]⟩
      · have hk' : Hid (eqS l m = true) := Lib.hid (eqS_true (eq_take ht.out (by omega) HL.out))
        go_wp2_with fail
        go_ret
        exact ⟨by rw [hk'.out]; rfl, n, HW.out⟩
  · have g0 : ((l.length : Int) != (m.length : Int)) = true := by simp; omega
    have g0' : (l.length != m.length) = true := by simp [hlen]
    have hne : Hid (eqS l m = false) := Lib.hid (eqS_false (fun e => hlen (by rw [e])))
    have HL := Lib.hid hlen
    clear hlen
    go_enter Tryd.func44, Tryd.ntmps44
    go_wp2
    go_ret
    exact ⟨by rw [hne.out]; rfl, 0, rfl⟩

/-- a region that reads one hunk and lays new blocks alone -/
theorem over_hunk {id : Nat} {Q : Exit → Act → World → Prop} {a : Act} {w : World} {l : List Oper} {g : Nat} {z : Int} {o n : Value} (hm : Tryd.prog.follows .mixedOrders = true) (hB : Region.lexB .any l.toArray = true) (U : Hu w g z o n)
    (h : (∀ m, (over w m).cell? ⟨g, 0, none⟩ = some (.int .i64 z)) → (∀ m, (over w m).cell? ⟨g, 1, none⟩ = some o) → (∀ m, (over w m).cell? ⟨g, 2, none⟩ = some n) →
      wpQuiet Tryd.prog l.toArray (fun w' => ∃ n, w' = over w n) (fun a' => ∀ w', (∃ n, w' = over w n) → Q .normal a' w') l a) : (Code.region id l.toArray true).wp Tryd.prog Q a w :=
  over_lit hm hB (h (over_cell U.lt U.c0) (over_cell U.lt U.c1) (over_cell U.lt U.c2))

set_option maxHeartbeats 800000 in
theorem occurs_any (pt o1 n1 : Option Addr) (t : List ByteArray) (h : Tp.H) (cap o3 n2 n3 : Nat) (w : World) (hp : Sts w pt t) (hq : Sts w o1 h.old) (hc : t.length ≤ cap) (h1 : 0 ≤ h.at') (h2 : h.at' ≤ 1000000) (h3 : h.old.length ≤ 1000000) :
    Calls Tryd.prog 33 #[.agg #[.int .i64 h.at', .slice o1 h.old.length o3, .slice n1 n2 n3], .slice pt t.length cap] w (BPost (.bool (Tp.has t h)) w) := by
  have HP := Lib.hid hp
  have HQ := Lib.hid hq
  obtain ⟨z, hz⟩ : ∃ z : Nat, h.at' = z := ⟨h.at'.toNat, by omega⟩
  have ez : h.at'.toNat = z := by omega
  have ee : (Tp.en h).toNat = z + h.old.length := by unfold Tp.en; omega
  rw [hz]
  have U := Hu.new w (z : Int) (.slice o1 h.old.length o3) (.slice n1 n2 n3) 46
  have UH := Lib.hid U
  have hb0 : Below w.heap.size w (w.alloc (.cells #[.int .i64 (z : Int), .slice o1 h.old.length o3, .slice n1 n2 n3] 46 (0, 0))) := up_alloc (Below.refl _ _) _
  have CE : ∀ W, Calls Tryd.prog 34 #[.agg #[.int .i64 (z : Int), .slice o1 h.old.length o3, .slice n1 n2 n3]] W (BPost (.int .i64 ((z : Int) + (h.old.length : Int))) W) := fun W => end_any (z : Int) o1 n1 h.old.length o3 n2 n3 W (by omega) (by omega) (by omega)
  have HB := Lib.hid hb0
  have CEH := Lib.hid CE
  clear CE
  by_cases hlt : z + h.old.length ≤ t.length
  · have g2 : decide ((z : Int) + (h.old.length : Int) ≤ (t.length : Int)) = true := by rw [decide_eq_true_iff]; omega
    have s1 := fun w => run_mid pt t.length cap z (z + h.old.length) (by omega) (by omega) w
    rw [show ((z + h.old.length : Nat) : Int) = (z : Int) + (h.old.length : Int) by omega, Nat.add_sub_cancel_left] at s1
    have e1 := mid_size t z (z + h.old.length) hlt
    rw [Nat.add_sub_cancel_left] at e1
    have E : Hid (Tp.has t h = eqS (mid t z (z + h.old.length)) h.old) := Lib.hid (by
      by_cases e : mid t z (z + h.old.length) = h.old
      · rw [eqS_true e]
        exact Tp.has_true.2 ⟨by omega, by unfold Tp.en; omega, by rw [ez, ee]; exact e⟩
      · rw [eqS_false e]
        exact Tp.has_false.2 (fun k => e (by have := k.eq; rwa [ez, ee] at this)))
    have E1 := Lib.hid e1
    have MD := Lib.hid (HP.out.mid z (z + h.old.length) cap (by omega) hlt hc)
    clear e1 hz ez ee hp hq hb0 U
    go_enter Tryd.func33, Tryd.ntmps33
    go_wp2_with fail
    obtain ⟨W, hW⟩ : ∃ W, W = w.alloc (.cells #[.int .i64 (z : Int), .slice o1 h.old.length o3, .slice n1 n2 n3] 46 (0, 0)) := ⟨_, rfl⟩
    rw [← hW] at UH HB ⊢
    clear hW
    have CE := fun n => over_call (CEH.out (over W n))
    have CQ := fun n => over_quiet (slicesEqual_any (sAt pt z cap) o1 (mid t z (z + h.old.length)) h.old h.old.length h.old.length (cap - z) o3 (over W n) (by rw [E1.out]) rfl ((MD.out.mono HB.out).mono (over_below _ n)) ((HQ.out.mono HB.out).mono (over_below _ n)))
    refine over_hunk (by kernel_rfl) (by kernel_rfl) UH.out ?_
    intro r1 r2 r3
    repeat (go_big_quiet_step (first | (go_at_call 34; exact CE _) | (go_at_call 44; exact CQ _)))
    refine wpQuiet_nil ?_
    rintro _ ⟨nq, rfl⟩
    clear r1 r2 r3
    go_wp2_with fail
    go_ret
    refine ⟨by rw [E.out]; rfl, ?_⟩
    exact up_call HB.out (over_below _ _)
  · have g2 : decide ((z : Int) + (h.old.length : Int) ≤ (t.length : Int)) = false := by rw [decide_eq_false_iff_not]; omega
    have E : Hid (Tp.has t h = false) := Lib.hid (Tp.has_false.2 (fun k => hlt (by have := k.hi; unfold Tp.en at this; omega)))
    clear hz ez ee hlt hp hq hb0 U
    go_enter Tryd.func33, Tryd.ntmps33
    go_wp2_with fail
    obtain ⟨W, hW⟩ : ∃ W, W = w.alloc (.cells #[.int .i64 (z : Int), .slice o1 h.old.length o3, .slice n1 n2 n3] 46 (0, 0)) := ⟨_, rfl⟩
    rw [← hW] at UH HB ⊢
    clear hW
    have CE := fun n => over_call (CEH.out (over W n))
    refine over_hunk (by kernel_rfl) (by kernel_rfl) UH.out ?_
    intro r1 r2 r3
    repeat (go_big_quiet_step ((go_at_call 34; exact CE _)))
    refine wpQuiet_nil ?_
    rintro _ ⟨nq, rfl⟩
    clear r1 r2 r3
    go_wp2_with fail
    go_ret
    refine ⟨by rw [E.out]; rfl, ?_⟩
    exact up_call HB.out (over_below _ _)
end Go.Proofs.YtcheggdfcdokiaaDoor
