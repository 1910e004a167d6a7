/-
  The program's textpatch: end, changed, hunkCode, walked.
-/
import Derived.Test.YtolpbeemeignaaaTpB
import Derived.IntWalk
namespace Go.Proofs.Ytolpbeemeignaaa
open Go.RowKit
set_option maxRecDepth 4000

theorem end_any (z : Int) (o1 n1 : Option Addr) (o2 o3 n2 n3 : Nat) (w : World) (h1 : 0 ≤ z) (h2 : z ≤ 1000000) (h3 : o2 ≤ 281474976710656) :
    Calls Try.prog 47 #[.agg #[.int .i64 z, .slice o1 o2 o3, .slice n1 n2 n3]] w (BPost (.int .i64 (z + (o2 : Int))) w) := by
  have wz : IntKind.i64.wrap (z + (o2 : Int)) = z + (o2 : Int) := IntWalk.i64_in _ (by omega)
  go_enter Try.func47, Try.ntmps47
  go_wp2_with fail
  go_ret
  exact ⟨rfl, up_alloc (Below.refl _ _) _⟩

theorem changed_lines (z : Int) (o1 n1 : Option Addr) (o2 o3 n2 n3 : Nat) (w : World) (h3 : o2 ≤ 281474976710656) (h4 : n2 ≤ 281474976710656) :
    Calls Try.prog 74 #[.agg #[.int .i64 z, .slice o1 o2 o3, .slice n1 n2 n3]] w (BPost (.int .i64 ((o2 : Int) + (n2 : Int))) w) := by
  have wz : IntKind.i64.wrap ((o2 : Int) + (n2 : Int)) = (o2 : Int) + (n2 : Int) := IntWalk.i64_in _ (by omega)
  go_enter Try.func74, Try.ntmps74
  go_wp2_with fail
  go_ret
  exact ⟨rfl, up_alloc (Below.refl _ _) _⟩

set_option maxRecDepth 100000 in
set_option maxHeartbeats 8000000 in
theorem hunkCode_any (z prev : Int) (o1 n1 : Option Addr) (o3 n3 : Nat) (ol nl : List ByteArray) (w : World) (q1 : Sts w o1 ol) (q2 : Sts w n1 nl) :
    Calls Try.prog 55 #[.agg #[.int .i64 z, .slice o1 ol.length o3, .slice n1 nl.length n3], .int .i64 prev] w (BPost (.int .i64 (Tp.hC prev ⟨z, ol, nl⟩)) w) := by
  have Q1 := Lib.hid q1
  have Q2 := Lib.hid q2
  clear q1 q2
  have U0 := Lib.hid (Hu.new w z (.slice o1 ol.length o3) (.slice n1 nl.length n3) 58)
  have u0 := up_alloc (Below.refl w.heap.size w) (.cells #[.int .i64 z, .slice o1 ol.length o3, .slice n1 nl.length n3] 58 (0, 0))
  by_cases hz0 : z < 0
  · have gz : decide (z < 0) = true := by simpa using hz0
    have E := Lib.hid (hC_at (prev := prev) (h := ⟨z, ol, nl⟩) (.inl hz0))
    go_enter Try.func55, Try.ntmps55
    go_wp2_with fail
    go_ret
    refine ⟨by rw [E.out]; rfl, ?_⟩
    (repeat' (first | (with_reducible exact Below.refl _ _) | (with_reducible assumption) | (with_reducible refine below_drewN ?_ _) | (with_reducible refine Below.setCell ?_ ?_ _) | (with_reducible refine Below.alloc ?_ ?_ _) | (with_reducible refine Below.drew ?_) | go_size))
  · have gz : decide (z < 0) = false := by simpa using hz0
    by_cases hz1 : 120 < z
    · have gz1 : decide (120 < z) = true := by simpa using hz1
      have E := Lib.hid (hC_at (prev := prev) (h := ⟨z, ol, nl⟩) (.inr hz1))
      go_enter Try.func55, Try.ntmps55
      go_wp2_with fail
      go_ret
      refine ⟨by rw [E.out]; rfl, ?_⟩
      (repeat' (first | (with_reducible exact Below.refl _ _) | (with_reducible assumption) | (with_reducible refine below_drewN ?_ _) | (with_reducible refine Below.setCell ?_ ?_ _) | (with_reducible refine Below.alloc ?_ ?_ _) | (with_reducible refine Below.drew ?_) | go_size))
    · have gz1 : decide (120 < z) = false := by simpa using hz1
      have hz : ¬ (z < 0 ∨ 120 < z) := by omega
      have HZ := Lib.hid hz
      clear hz
      have we : ol.length ≤ 120 → IntKind.i64.wrap (z + (ol.length : Int)) = z + (ol.length : Int) := fun _ => IntWalk.i64_in _ (by omega)
      go_enter Try.func55, Try.ntmps55
      go_wp2_with fail
      refine (validate_any o1 ol _ _ _ rfl (Q1.out.mono u0)).mono ?_
      rintro e w1 ⟨rfl, hb1⟩
      have u1 := up_call u0 hb1
      have U1 := Lib.hid (U0.out.up hb1)
      clear hb1 U0 u0
      by_cases ho : Lin.vC ol = 0
      · have HO := Lib.hid ho
        have lo := (Lin.vC_zero ho).1
        have e2 := Lin.vI_zero ho
        rw [ho, e2]
        clear ho e2
        have U2 := Lib.hid (U1.out.up (up_alloc (Below.refl _ _) (.cells #[.int .i64 0, .int .i64 0] 26 (0, 0))))
        have u2 := up_alloc u1 (.cells #[.int .i64 0, .int .i64 0] 26 (0, 0))
        obtain ⟨y0, y1, y2, y3⟩ := U1.out
        go_wp2_with fail
        refine (validate_any n1 nl _ _ _ rfl (Q2.out.mono u2)).mono ?_
        rintro e w3 ⟨rfl, hb3⟩
        have u3 := up_call u2 hb3
        have U3 := Lib.hid (U2.out.up hb3)
        clear hb3 U1 U2 u1 u2 y0 y1 y2 y3
        by_cases hnw : Lin.vC nl = 0
        · have HN := Lib.hid hnw
          have ln := (Lin.vC_zero hnw).1
          have e3 := Lin.vI_zero hnw
          rw [hnw, e3]
          clear hnw e3
          have U4 := Lib.hid (U3.out.up (up_alloc (Below.refl _ _) (.cells #[.int .i64 0, .int .i64 0] 26 (0, 0))))
          have u4 := up_alloc u3 (.cells #[.int .i64 0, .int .i64 0] 26 (0, 0))
          obtain ⟨y0, y1, y2, y3⟩ := U3.out
          go_wp2_with fail
          refine (changed_lines z o1 n1 ol.length o3 nl.length n3 _ (by omega) (by omega)).mono ?_
          rintro e w5 ⟨rfl, hb5⟩
          have u5 := up_call u4 hb5
          have U5 := Lib.hid (U4.out.up hb5)
          clear hb5 U3 U4 u3 u4 y0 y1 y2 y3
          by_cases hsum : ol.length + nl.length = 0
          · have gs : ((ol.length : Int) + (nl.length : Int) == 0) = true := by rw [beq_iff_eq]; omega
            have R := Lib.hid (hC_mal (prev := prev) (h := ⟨z, ol, nl⟩) HZ.out HO.out HN.out (.inl hsum))
            go_wp2_with fail
            go_ret
            refine ⟨by rw [R.out]; rfl, ?_⟩
            (repeat' (first | (with_reducible exact Below.refl _ _) | (with_reducible assumption) | (with_reducible refine below_drewN ?_ _) | (with_reducible refine Below.setCell ?_ ?_ _) | (with_reducible refine Below.alloc ?_ ?_ _) | (with_reducible refine Below.drew ?_) | go_size))
          · have gs : ((ol.length : Int) + (nl.length : Int) == 0) = false := by rw [beq_eq_false_iff_ne]; omega
            obtain ⟨y0, y1, y2, y3⟩ := U5.out
            by_cases hpv : z ≤ prev
            · have gp : decide (z ≤ prev) = true := by simpa using hpv
              have R := Lib.hid (hC_mal (prev := prev) (h := ⟨z, ol, nl⟩) HZ.out HO.out HN.out (.inr hpv))
              go_wp2_with fail
              go_ret
              refine ⟨by rw [R.out]; rfl, ?_⟩
              (repeat' (first | (with_reducible exact Below.refl _ _) | (with_reducible assumption) | (with_reducible refine below_drewN ?_ _) | (with_reducible refine Below.setCell ?_ ?_ _) | (with_reducible refine Below.alloc ?_ ?_ _) | (with_reducible refine Below.drew ?_) | go_size))
            · have gp : decide (z ≤ prev) = false := by simpa using hpv
              have NE : Hid (¬ (ol.length + nl.length = 0 ∨ z ≤ prev)) := Lib.hid (by omega)
              go_wp2_with fail
              refine (end_any z o1 n1 ol.length o3 nl.length n3 _ (by omega) (by omega) (by omega)).mono ?_
              rintro e w6 ⟨rfl, hb6⟩
              have u6 := up_call u5 hb6
              by_cases hen : 120 < z + (ol.length : Int)
              · have ge : decide (120 < z + (ol.length : Int)) = true := by simpa using hen
                have R := Lib.hid (hC_end (prev := prev) (h := ⟨z, ol, nl⟩) HZ.out HO.out HN.out NE.out hen)
                go_wp2_with fail
                go_ret
                refine ⟨by rw [R.out]; rfl, ?_⟩
                (repeat' (first | (with_reducible exact Below.refl _ _) | (with_reducible assumption) | (with_reducible refine below_drewN ?_ _) | (with_reducible refine Below.setCell ?_ ?_ _) | (with_reducible refine Below.alloc ?_ ?_ _) | (with_reducible refine Below.drew ?_) | go_size))
              · have ge : decide (120 < z + (ol.length : Int)) = false := by simpa using hen
                have R := Lib.hid (hC_ok (prev := prev) (h := ⟨z, ol, nl⟩) HZ.out HO.out HN.out NE.out hen)
                go_wp2_with fail
                go_ret
                refine ⟨by rw [R.out]; rfl, ?_⟩
                (repeat' (first | (with_reducible exact Below.refl _ _) | (with_reducible assumption) | (with_reducible refine below_drewN ?_ _) | (with_reducible refine Below.setCell ?_ ?_ _) | (with_reducible refine Below.alloc ?_ ?_ _) | (with_reducible refine Below.drew ?_) | go_size))
        · have R := Lib.hid (hC_new (prev := prev) (h := ⟨z, ol, nl⟩) HZ.out HO.out hnw)
          have HN := Lib.hid hnw
          have hz3 := u3.size
          have F4 := Lib.hid (Flt.new w3 (Lin.vC nl) (Lin.vI nl) 26)
          obtain ⟨a0, a1, a2, a3, a4⟩ := F4.out
          go_wp2_with fail
          go_ret
          refine ⟨by rw [R.out]; rfl, ?_⟩
          (repeat' (first | (with_reducible exact Below.refl _ _) | (with_reducible assumption) | (with_reducible refine below_drewN ?_ _) | (with_reducible refine Below.setCell ?_ ?_ _) | (with_reducible refine Below.alloc ?_ ?_ _) | (with_reducible refine Below.drew ?_) | go_size))
      · have R := Lib.hid (hC_old (prev := prev) (h := ⟨z, ol, nl⟩) HZ.out ho)
        have hz3 := u1.size
        have F4 := Lib.hid (Flt.new w1 (Lin.vC ol) (Lin.vI ol) 26)
        obtain ⟨a0, a1, a2, a3, a4⟩ := F4.out
        go_wp2_with fail
        go_ret
        refine ⟨by rw [R.out]; rfl, ?_⟩
        (repeat' (first | (with_reducible exact Below.refl _ _) | (with_reducible assumption) | (with_reducible refine below_drewN ?_ _) | (with_reducible refine Below.setCell ?_ ?_ _) | (with_reducible refine Below.alloc ?_ ?_ _) | (with_reducible refine Below.drew ?_) | go_size))
end Go.Proofs.Ytolpbeemeignaaa
