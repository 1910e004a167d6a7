
/-
  The reference's End, Equal, has, walked.
-/
import Derived.Test.YtcheggdfcdokiaaDoorTpM
import Derived.Test.YtcheggdfcdokiaaDoorDifE
import Derived.Test.YtcheggdfcdokiaaDoorDfH
import Derived.Deep.RegionHeld3
namespace Go.Proofs.YtcheggdfcdokiaaDoor
open Go.RowKit
set_option maxRecDepth 4000

theorem refEnd_any (z : Int) (o1 n1 : Option Addr) (o2 o3 n2 n3 : Nat) (w : World) (h1 : 0 ≤ z) (h2 : z ≤ 1000000) (h3 : o2 ≤ 281474976710656) :
    Calls Tryd.prog 22 #[.agg #[.int .i64 z, .slice o1 o2 o3, .slice n1 n2 n3]] w (BPost (.int .i64 (z + (o2 : Int))) w) := by
  have wz : IntKind.i64.wrap (z + (o2 : Int)) = z + (o2 : Int) := IntWalk.i64_in _ (by omega)
  go_enter Tryd.func22, Tryd.ntmps22
  go_wp2_with fail
  go_ret
  exact ⟨rfl, up_alloc (Below.refl _ _) _⟩

set_option maxHeartbeats 1000000 in
theorem refEqual_any (p q : Option Addr) (l m : List ByteArray) (n k cap cap' : Nat) (w : World) (hn : n = l.length) (hk : k = m.length) (hp : Sts w p l) (hq : Sts w q m) :
    Calls Tryd.prog 43 #[.slice p n cap, .slice q k cap'] w (QPost (.bool (eqS l m)) w) := by
  subst hn hk
  have hl1 := hp.len
  have hl2 := hq.len
  by_cases hlen : l.length = m.length
  · have g0 : ((l.length : Int) != (m.length : Int)) = false := by simp [hlen]
    have g0' : (l.length != m.length) = false := by simp [hlen]
    have HL := Lib.hid hlen
    have HP := Lib.hid hp
    have HQ := Lib.hid hq
    clear hlen hp hq
    go_enter Tryd.func43, Tryd.ntmps43
    go_wp2
    go_loopw [5] (fun i wr => ∃ k n : Nat, k ≤ l.length ∧ i = .int .i64 k ∧ wr = w.drewN n ∧ Hid (l.take k = m.take k)) (fun i _ => l.length - (intOf i).toNat)
    case atStart => exact ⟨0, 0, Nat.zero_le _, rfl, rfl, Lib.hid rfl⟩
    case round =>
      obtain ⟨k, n, hk, rfl, hw, ht⟩ := hrel
      have HW := Lib.hid hw
      clear hw
      by_cases hlt : k < l.length
      · have hlt2 : k < m.length := by have := HL.out; omega
        obtain ⟨b, off, rfl, hb, hc⟩ := HP.out.cell hlt
        obtain ⟨b', off', rfl, hb', hc'⟩ := HQ.out.cell hlt2
        have h1 : wr.cell? ⟨b, off + k, none⟩ = some (.string l[k]) := by rw [HW.out, World.cell?_drewN, hc]
        have h2 : wr.cell? ⟨b', off' + k, none⟩ = some (.string m[k]) := by rw [HW.out, World.cell?_drewN, hc']
        have b7 : (0 : Int) ≤ (k : Int) := by omega
        have b8 : (k : Int) < (l.length : Int) := by omega
        have b9 : (k : Int) < (m.length : Int) := by omega
        have hn := take_next ht.out hlt hlt2
        obtain ⟨x, hx⟩ : ∃ x, x = l[k] := ⟨_, rfl⟩
        obtain ⟨y, hy⟩ : ∃ y, y = m[k] := ⟨_, rfl⟩
        rw [← hx] at h1 hn
        rw [← hy] at h2 hn
        by_cases he : x = y
        · have HN := Lib.hid (hn he)
          subst he
          clear hc hc' hx hy hn
          go_wp2_with fail
          go_quiet (fail)
          go_wp2_with fail
          go_roundw
          case rel => exact ⟨k + 1, _, by omega, by go_num, by rw [HW.out, World.drewN_drewN], HN⟩
          case measure => simp [intOf]; omega
        · have hne : eqS l m = false := eqS_false (fun e => he (by rw [hx, hy]; congr 1))
          have e1 := tl_false he
          have HE := Lib.hid hne
          clear hc hc' hx hy hn hne he
          go_wp2_with fail
          go_quiet (fail)
          go_wp2_with fail
          go_ret
          exact ⟨by rw [HE.out]; rfl, _, by rw [HW.out, World.drewN_drewN]⟩
      · have hk' : Hid (eqS l m = true) := Lib.hid (eqS_true (eq_take ht.out (by omega) HL.out))
        go_wp2_with fail
        go_ret
        exact ⟨by rw [hk'.out]; rfl, n, HW.out⟩
  · have g0 : ((l.length : Int) != (m.length : Int)) = true := by simp; omega
    have g0' : (l.length != m.length) = true := by simp [hlen]
    have hne : Hid (eqS l m = false) := Lib.hid (eqS_false (fun e => hlen (by rw [e])))
    have HL := Lib.hid hlen
    clear hlen
    go_enter Tryd.func43, Tryd.ntmps43
    go_wp2
    go_ret
    exact ⟨by rw [hne.out]; rfl, 0, rfl⟩

set_option maxHeartbeats 1000000 in
theorem refHas_any (pt p : Option Addr) (t : List ByteArray) (h : Tp.H) (n cap m cap' : Nat) (w : World) (hn : n = t.length) (hm : m = h.old.length) (hp : Sts w pt t) (hq : Sts w p h.old) (hc : t.length ≤ cap) (h1 : 0 ≤ h.at') (h2 : h.at' ≤ 1000000) (h3 : h.old.length ≤ 1000000) :
    Calls Tryd.prog 29 #[.slice pt n cap, .int .i64 h.at', .slice p m cap'] w (QPost (.bool (Tp.has t h)) w) := by
  subst hn hm
  have HP := Lib.hid hp
  have HQ := Lib.hid hq
  obtain ⟨z, hz⟩ : ∃ z : Nat, h.at' = z := ⟨h.at'.toNat, by omega⟩
  have ez : h.at'.toNat = z := by omega
  have ee : (Tp.en h).toNat = z + h.old.length := by unfold Tp.en; omega
  rw [hz]
  have wz : IntKind.i64.wrap ((z : Int) + (h.old.length : Int)) = (z : Int) + (h.old.length : Int) := IntWalk.i64_in _ (by omega)
  have g1 : decide ((z : Int) < 0) = false := by rw [decide_eq_false_iff_not]; omega
  by_cases hlt : z + h.old.length ≤ t.length
  · have g2 : decide ((t.length : Int) < (z : Int) + (h.old.length : Int)) = false := by rw [decide_eq_false_iff_not]; omega
    have s1 := fun w => run_mid pt t.length cap z (z + h.old.length) (by omega) (by omega) w
    rw [show ((z + h.old.length : Nat) : Int) = (z : Int) + (h.old.length : Int) by omega] at s1
    have S1 := Lib.hid (HP.out.mid z (z + h.old.length) cap (by omega) hlt hc)
    have e1 := mid_size t z (z + h.old.length) hlt
    have E : Hid (Tp.has t h = eqS (mid t z (z + h.old.length)) h.old) := Lib.hid (by
      by_cases e : mid t z (z + h.old.length) = h.old
      · rw [eqS_true e]
        exact Tp.has_true.2 ⟨by omega, by unfold Tp.en; omega, by rw [ez, ee]; exact e⟩
      · rw [eqS_false e]
        exact Tp.has_false.2 (fun k => e (by have := k.eq; rwa [ez, ee] at this)))
    have E1 := Lib.hid e1
    clear e1 hz ez ee hp hq
    go_enter Tryd.func29, Tryd.ntmps29
    go_wp2_with fail
    refine (refEqual_any (sAt pt z cap) p (mid t z (z + h.old.length)) h.old h.old.length h.old.length (cap - z) cap' w (by rw [E1.out]; omega) rfl S1.out HQ.out).mono ?_
    rintro e w1 ⟨rfl, k, rfl⟩
    go_wp2_with fail
    go_ret
    exact ⟨by rw [E.out]; rfl, k, rfl⟩
  · have g2 : decide ((t.length : Int) < (z : Int) + (h.old.length : Int)) = true := by rw [decide_eq_true_iff]; omega
    have E : Hid (Tp.has t h = false) := Lib.hid (Tp.has_false.2 (fun k => hlt (by have := k.hi; unfold Tp.en at this; omega)))
    clear hz ez ee hp hq hlt
    go_enter Tryd.func29, Tryd.ntmps29
    go_wp2_with fail
    go_ret
    exact ⟨by rw [E.out]; rfl, 0, rfl⟩
end Go.Proofs.YtcheggdfcdokiaaDoor
