
/-
  The program's unified: end, occurs, offsetOf, walked.
-/
import Derived.Test.YtcheggdfcdokiaaDoorUnM
import Derived.Test.YtcheggdfcdokiaaDoorTqD
namespace Go.Proofs.YtcheggdfcdokiaaDoor
open Go.RowKit
set_option maxRecDepth 4000

/-- the walk, stopped at an append -/
structure Halt (P : Prop) : Prop where
  out : P

theorem uend_any (z : Int) (o1 n1 : Option Addr) (o2 o3 n2 n3 : Nat) (w : World) (h1 : -1000000 ≤ z) (h2 : z ≤ 1000000) (h3 : o2 ≤ 281474976710656) :
    Calls Tryd.prog 13 #[.agg #[.int .i64 z, .slice o1 o2 o3, .slice n1 n2 n3]] w (BPost (.int .i64 (z + (o2 : Int))) w) := by
  have wz : IntKind.i64.wrap (z + (o2 : Int)) = z + (o2 : Int) := IntWalk.i64_in _ (by omega)
  go_enter Tryd.func13, Tryd.ntmps13
  go_wp2_with fail
  go_ret
  exact ⟨rfl, up_alloc (Below.refl _ _) _⟩

set_option maxHeartbeats 800000 in
theorem uoccurs_any (pt o1 : Option Addr) (t l nl : List ByteArray) (z : Nat) (cap co : Nat) (w : World) (hp : Sts w pt t) (hq : Sts w o1 l) (hc : t.length ≤ cap) (h2 : z ≤ 1000000) (h3 : l.length ≤ 1000000) :
    Calls Tryd.prog 41 #[.slice o1 l.length co, .slice pt t.length cap, .int .i64 (z : Int)] w (BPost (.bool (Tp.has t ⟨(z : Int), l, nl⟩)) w) := by
  have HP := Lib.hid hp
  have HQ := Lib.hid hq
  have ee : (Tp.en ⟨(z : Int), l, nl⟩).toNat = z + l.length := by unfold Tp.en; dsimp only; omega
  have ez : (⟨(z : Int), l, nl⟩ : Tp.H).at'.toNat = z := by dsimp only; omega
  have wz : IntKind.i64.wrap ((z : Int) + (l.length : Int)) = (z : Int) + (l.length : Int) := IntWalk.i64_in _ (by omega)
  by_cases hlt : z + l.length ≤ t.length
  · have g2 : decide ((z : Int) + (l.length : Int) ≤ (t.length : Int)) = true := by rw [decide_eq_true_iff]; omega
    have s1 := fun w => run_mid pt t.length cap z (z + l.length) (by omega) (by omega) w
    rw [show ((z + l.length : Nat) : Int) = (z : Int) + (l.length : Int) by omega, Nat.add_sub_cancel_left] at s1
    have e1 := mid_size t z (z + l.length) hlt
    rw [Nat.add_sub_cancel_left] at e1
    have E : Hid (Tp.has t ⟨(z : Int), l, nl⟩ = eqS (mid t z (z + l.length)) l) := Lib.hid (by
      by_cases e : mid t z (z + l.length) = l
      · rw [eqS_true e]
        exact Tp.has_true.2 ⟨by dsimp only; omega, by unfold Tp.en; dsimp only; omega, by rw [ez, ee]; exact e⟩
      · rw [eqS_false e]
        exact Tp.has_false.2 (fun k => e (by have := k.eq; rwa [ez, ee] at this)))
    have E1 := Lib.hid e1
    have MD := Lib.hid (HP.out.mid z (z + l.length) cap (by omega) hlt hc)
    clear e1 ez ee hp hq hlt
    go_enter Tryd.func41, Tryd.ntmps41
    go_wp2_with fail
    refine (slicesEqual_any (sAt pt z cap) o1 (mid t z (z + l.length)) l l.length l.length (cap - z) co _ (by rw [E1.out]) rfl MD.out HQ.out).mono ?_
    rintro e w1 ⟨rfl, nq, hw⟩
    have B1 : Hid (Below w.heap.size w w1) := Lib.hid (by rw [hw]; exact below_drewN (Below.refl _ _) _)
    clear hw
    go_wp2_with fail
    go_ret
    exact ⟨by rw [E.out]; rfl, B1.out⟩
  · have g2 : decide ((z : Int) + (l.length : Int) ≤ (t.length : Int)) = false := by rw [decide_eq_false_iff_not]; omega
    have E : Hid (Tp.has t ⟨(z : Int), l, nl⟩ = false) := Lib.hid (Tp.has_false.2 (fun k => by have := k.hi; unfold Tp.en at this; dsimp only at this; omega))
    clear hp hq hlt ee ez
    go_enter Tryd.func41, Tryd.ntmps41
    go_wp2_with fail
    go_ret
    exact ⟨by rw [E.out]; rfl, Below.refl _ _⟩

/-- offsetOf's results -/
def offV : Option Int → Value
  | some d => .tuple #[.int .i64 d, .bool true]
  | none => .tuple #[.int .i64 0, .bool false]

/-- what is known of the two offsets of a distance when j of them were tried -/
def tried (t : List ByteArray) (low : Int) (h : Tp.H) (k : Nat) (j : Nat) : Prop := (1 ≤ j → Tp.fit t low h (-(k : Int)) = false) ∧ (2 ≤ j → Tp.fit t low h (k : Int) = false)
theorem tried_zero (t : List ByteArray) (low : Int) (h : Tp.H) (k : Nat) : tried t low h k 0 := ⟨fun e => by omega, fun e => by omega⟩
/-- the offset that is tried at j -/
def dAt (k j : Nat) : Int := if j = 0 then -(k : Int) else (k : Int)
theorem tried_next {t : List ByteArray} {low : Int} {h : Tp.H} {k j : Nat} (hj : j < 2) (H : tried t low h k j) (e : Tp.fit t low h (dAt k j) = false) : tried t low h k (j + 1) := by
  unfold dAt at e
  rcases (show j = 0 ∨ j = 1 by omega) with rfl | rfl
  · exact ⟨fun _ => e, fun h => by omega⟩
  · exact ⟨fun _ => H.1 (by omega), fun _ => e⟩
theorem tried_hit {t : List ByteArray} {low : Int} {h : Tp.H} {k j n : Nat} (hj : j < 2) (H : tried t low h k j) (e : Tp.fit t low h (dAt k j) = true) : Tp.fo t low h (n + 1) k = some (dAt k j) := by
  unfold dAt at e ⊢
  rcases (show j = 0 ∨ j = 1 by omega) with rfl | rfl
  · exact Tp.fo_neg e
  · exact Tp.fo_pos (H.1 (by omega)) e

set_option maxRecDepth 100000 in
set_option maxHeartbeats 4000000 in
theorem offsetOf_any (pt o1 n1 : Option Addr) (t : List ByteArray) (h : Tp.H) (cap o3 n2 n3 : Nat) (low : Int) (R : Nat) (w : World) (hp : Sts w pt t) (hq : Sts w o1 h.old) (hc : t.length ≤ cap) (h1 : 0 ≤ h.at') (h2 : h.at' ≤ 1000) (h3 : h.old.length ≤ 1000000)
    (l1 : 0 ≤ low) (l2 : low ≤ 1000) (hR : R ≤ 1000) :
    Calls Tryd.prog 26 #[.agg #[.int .i64 h.at', .slice o1 h.old.length o3, .slice n1 n2 n3], .slice pt t.length cap, .int .i64 low, .int .i64 (R : Int)] w (BPost (offV (Tp.off t R low h)) w) := by
  obtain ⟨z, ol, nl⟩ := h
  dsimp only at h1 h2 h3 hq ⊢
  have wR : IntKind.i64.wrap ((R : Int) + 1) = (R : Int) + 1 := IntWalk.i64_in _ (by omega)
  have U0 := Lib.hid (Hu.new w z (.slice o1 ol.length o3) (.slice n1 n2 n3) 46)
  have B0 := Lib.hid (up_alloc (Below.refl w.heap.size w) (.cells #[.int .i64 z, .slice o1 ol.length o3, .slice n1 n2 n3] 46 (0, 0)))
  have HP := Lib.hid hp
  have HQ := Lib.hid hq
  have HC := Lib.hid hc
  have L1 := Lib.hid l1
  clear hp hq hc
  go_enter Tryd.func26, Tryd.ntmps26
  go_wp2_with fail
  go_loopw [16] (fun i wr => ∃ k : Nat, k ≤ R + 1 ∧ i = .int .i64 k ∧ Hid (Tp.fo t low ⟨z, ol, nl⟩ (R + 1 - k) k = Tp.off t R low ⟨z, ol, nl⟩) ∧ Hid (Below w.heap.size w wr) ∧ Hid (Hu wr w.heap.size z (.slice o1 ol.length o3) (.slice n1 n2 n3))) (fun i _ => R + 1 - (intOf i).toNat)
  case atStart => exact ⟨0, Nat.zero_le _, rfl, Lib.hid rfl, B0, U0⟩
  case round =>
    clear B0 U0
    obtain ⟨k, hk, rfl, hF, hB, hU⟩ := hrel
    obtain ⟨wo, rfl⟩ : ∃ wo, wo = wr := ⟨_, rfl⟩
    by_cases hlt : k < R + 1
    · have g1 : decide ((k : Int) < (R : Int) + 1) = true := decide_eq_true (by omega)
      have wn : IntKind.i64.wrap (-(k : Int)) = -(k : Int) := IntWalk.i64_in _ (by omega)
      go_wp2_with fail
      go_loopw [23] (fun i wq => ∃ j : Nat, j ≤ 2 ∧ i = .int .i64 j ∧ Hid (tried t low ⟨z, ol, nl⟩ k j) ∧ Hid (Below w.heap.size w wq) ∧ Hid (Hu wq w.heap.size z (.slice o1 ol.length o3) (.slice n1 n2 n3))) (fun i _ => 2 - (intOf i).toNat)
      case atStart => exact ⟨0, Nat.zero_le _, rfl, Lib.hid (tried_zero _ _ _ _), hB, hU⟩
      case round =>
        clear hB hU
        obtain ⟨j, hj, rfl, hT, hB, hU⟩ := hrel
        by_cases hj2 : j < 2
        · have g3 : decide ((j : Int) < 2) = true := decide_eq_true (by omega)
          obtain ⟨x0, x1, x2, x3⟩ := hU.out
          have ix : ∀ w, (Instr.index 48 (.agg #[.int .i64 (-(k : Int)), .int .i64 (k : Int)]) (.int .i64 (j : Int))).run Tryd.prog w = .ok (.int .i64 (dAt k j)) w := by
            intro w
            rcases (show j = 0 ∨ j = 1 by omega) with rfl | rfl <;> rfl
          have d1 : -(k : Int) ≤ dAt k j ∧ dAt k j ≤ (k : Int) := by unfold dAt; split <;> omega
          have TN := Lib.hid (fun (e : Tp.fit t low ⟨z, ol, nl⟩ (dAt k j) = false) => tried_next hj2 hT.out e)
          have TH := Lib.hid (fun (e : Tp.fit t low ⟨z, ol, nl⟩ (dAt k j) = true) => tried_hit (n := R - k) hj2 hT.out e)
          obtain ⟨D, hD⟩ : ∃ D, D = dAt k j := ⟨_, rfl⟩
          rw [← hD] at ix d1 TN TH
          clear hD
          have wz : IntKind.i64.wrap (z + D) = z + D := IntWalk.i64_in _ (by omega)
          by_cases hz : low ≤ z + D
          · have g4 : decide (low ≤ z + D) = true := decide_eq_true hz
            obtain ⟨a, ha⟩ : ∃ a : Nat, z + D = a := ⟨(z + D).toNat, by have := L1.out; omega⟩
            have hh := Tp.fit_has (t := t) (h := ⟨z, ol, nl⟩) (low := low) (d := D) hz
            have hm : Tp.mv ⟨z, ol, nl⟩ D = ⟨z + D, ol, nl⟩ := rfl
            rw [hm] at hh
            have CO := Lib.hid (uoccurs_any pt o1 t ol nl a cap o3 wr (HP.out.mono hB.out) (HQ.out.mono hB.out) HC.out (by omega) h3)
            rw [← ha] at CO
            cases e : Tp.has t ⟨z + D, ol, nl⟩ with
            | true =>
              rw [e] at CO hh
              have R1 : Hid (Tp.off t R low ⟨z, ol, nl⟩ = some D) := Lib.hid (by rw [← hF.out, show R + 1 - k = (R - k) + 1 by omega]; exact TH.out hh)
              clear hh hm ha e hz
              go_wp2_with fail
              refine CO.out.mono ?_
              rintro e w1 ⟨rfl, hb1⟩
              have B1 := Lib.hid (up_call hB.out hb1)
              clear hb1
              go_wp2_with fail
              go_ret2
              exact ⟨by rw [R1.out]; rfl, B1.out⟩
            | false =>
              rw [e] at CO hh
              have NT : Hid (tried t low ⟨z, ol, nl⟩ k (j + 1)) := Lib.hid (TN.out hh)
              clear hh hm ha e hz
              go_wp2_with fail
              refine CO.out.mono ?_
              rintro e w1 ⟨rfl, hb1⟩
              have B1 := Lib.hid (up_call hB.out hb1)
              have U1 := Lib.hid (hU.out.up hb1)
              clear hb1
              go_wp2_with fail
              go_roundw
              case rel => exact ⟨j + 1, by omega, by go_num, NT, B1, U1⟩
              case measure => first | (simp [intOf]; done) | (simp [intOf]; omega)
          · have g4 : decide (low ≤ z + D) = false := decide_eq_false hz
            have NT : Hid (tried t low ⟨z, ol, nl⟩ k (j + 1)) := Lib.hid (TN.out (Tp.fit_low hz))
            clear hz
            go_wp2_with fail
            go_roundw
            case rel => exact ⟨j + 1, by omega, by go_num, NT, hB, hU⟩
            case measure => first | (simp [intOf]; done) | (simp [intOf]; omega)
        · have g3 : decide ((j : Int) < 2) = false := decide_eq_false (by omega)
          obtain rfl : j = 2 := by omega
          have NX : Hid (Tp.fo t low ⟨z, ol, nl⟩ (R + 1 - (k + 1)) (k + 1) = Tp.off t R low ⟨z, ol, nl⟩) := Lib.hid (by
            rw [← hF.out, show R + 1 - k = (R + 1 - (k + 1)) + 1 by omega, Tp.fo_next (hT.out.1 (by omega)) (hT.out.2 (by omega))])
          go_wp2_with fail
          go_roundw
          case rel => exact ⟨k + 1, hlt, by go_num, NX, hB, hU⟩
          case measure => first | (simp [intOf]; done) | (simp [intOf]; omega)
    · have g1 : decide ((k : Int) < (R : Int) + 1) = false := decide_eq_false (by omega)
      have E : Hid (Tp.off t R low ⟨z, ol, nl⟩ = none) := Lib.hid (by rw [← hF.out, show R + 1 - k = 0 by omega]; rfl)
      go_wp2_with fail
      go_ret2
      exact ⟨by rw [E.out]; rfl, hB.out⟩
/-- hunks as they lie: places, and slices that can be read -/
structure Rows (w : World) (hs : List Tp.H) (rs : List (Int × Sv × Sv)) : Prop where
  len : rs.length = hs.length
  each : ∀ i (h : i < hs.length) (h' : i < rs.length), rs[i].1 = hs[i].at' ∧ Rd w rs[i].2.1 hs[i].old ∧ Rd w rs[i].2.2 hs[i].new
theorem Rows.nil (w : World) : Rows w [] [] := ⟨rfl, fun i h => by simp at h⟩
theorem Rows.mono {w w' : World} {hs : List Tp.H} {rs : List (Int × Sv × Sv)} (h : Rows w hs rs) (hb : Below w.heap.size w w') : Rows w' hs rs :=
  ⟨h.len, fun i h1 h2 => ⟨(h.each i h1 h2).1, (h.each i h1 h2).2.1.mono hb, (h.each i h1 h2).2.2.mono hb⟩⟩
theorem Rows.snoc {w : World} {hs : List Tp.H} {rs : List (Int × Sv × Sv)} (h : Rows w hs rs) {x : Tp.H} {o n : Sv} (ro : Rd w o x.old) (rn : Rd w n x.new) : Rows w (hs ++ [x]) (rs ++ [(x.at', o, n)]) := by
  refine ⟨by simp [h.len], fun i h1 h2 => ?_⟩
  by_cases hi : i < hs.length
  · have hi' : i < rs.length := by rw [h.len]; exact hi
    rw [List.getElem_append_left hi, List.getElem_append_left hi']
    exact h.each i hi hi'
  · have e : i = hs.length := by simp at h1; omega
    subst e
    have l := h.len
    have e1 : (hs ++ [x])[hs.length] = x := by simp
    have e2 : (rs ++ [(x.at', o, n)])[hs.length] = (x.at', o, n) := by rw [List.getElem_append_right (by omega)]; simp [l]
    rw [e1, e2]
    exact ⟨rfl, ro, rn⟩
theorem Rows.ptc {w : World} {hs : List Tp.H} {rs : List (Int × Sv × Sv)} {p : Option Addr} (h : Rows w hs rs) (hr : Row hkE w p rs) : Ptc w p hs := by
  refine ⟨fun hp => ?_, fun hn => ?_⟩
  · have := hr.nil' hp
    have l := h.len
    rw [this] at l
    exact List.length_eq_zero_iff.1 l.symm
  · obtain ⟨b, off, h1, h2, h3⟩ := hr.at' (by intro e; apply hn; have l := h.len; rw [e] at l; exact List.length_eq_zero_iff.1 l.symm)
    refine ⟨b, off, h1, h2, fun i hi => ?_⟩
    have hi' : i < rs.length := by rw [h.len]; exact hi
    obtain ⟨e1, e2, e3⟩ := h.each i hi hi'
    have h4 := h3 i hi'
    refine ⟨rs[i].2.1, rs[i].2.2, ?_, ?_, ?_, e2, e3⟩
    · have := h4 0 _ rfl
      rw [← e1]; exact this
    · exact h4 1 _ rfl
    · exact h4 2 _ rfl

/-- rows of elements of two types lie apart -/
theorem own_apart {α β : Type} {e : Enc α} {e' : Enc β} (ht : e.ty ≠ e'.ty) {base base' : Nat} {w : World} {v v' : Value} {l : List α} {l' : List β} (h : OwnE e base w v l) (h' : OwnE e' base' w v' l') (b : Nat) (hb : v.ownBlock = some b) : v'.ownBlock ≠ some b := by
  obtain ⟨-, ⟨rfl, -⟩ | ⟨g, cap, cur, rfl, -, hg, r⟩⟩ := h
  · cases hb
  · cases hb
    intro e2
    obtain ⟨-, ⟨rfl, -⟩ | ⟨g', cap', cur', rfl, -, hg', r'⟩⟩ := h'
    · cases e2
    · cases e2
      rw [hg] at hg'
      simp only [Option.some.injEq, Obj.cells.injEq] at hg'
      exact ht hg'.2.1
theorem hunk_one' (w : World) (H : Nat) (hH : w.heap.size = H) (z : Int) (o n : Sv) (t : TypeId) (k : Nat) (u : Value) (h : (hkE.enc (z, o, n))[k]? = some u) : (w.alloc (.cells #[.int .i64 z, sv o, sv n] t (0, 0))).cell? ((⟨H, 0, none⟩ : Addr).add k) = some u := by
  subst hH; exact hunk_one w z o n t k u h
end Go.Proofs.YtcheggdfcdokiaaDoor
