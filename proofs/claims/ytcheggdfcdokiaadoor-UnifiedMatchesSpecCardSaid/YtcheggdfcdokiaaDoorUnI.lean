
/-
  The laws' Ints of equal lists, walked.
-/
import Derived.Test.YtcheggdfcdokiaaDoorUnB
namespace Go.Proofs.YtcheggdfcdokiaaDoor
open Go.RowKit
set_option maxRecDepth 4000

theorem Row.int {w : World} {p : Option Addr} {l : List Int} (h : Row intE w p l) {k : Nat} (hk : k < l.length) : ∃ b off, p = some ⟨b, off, none⟩ ∧ w.cell? ⟨b, off + k, none⟩ = some (.int .i64 l[k]) := by
  obtain ⟨b, off, e, -, hc⟩ := h.cell hk
  have := hc 0 (.int .i64 l[k]) (by simp [intE])
  rw [show intE.size = 1 from rfl, Nat.mul_one, Nat.add_zero] at this
  exact ⟨b, off, e, this⟩
set_option maxHeartbeats 1000000 in
theorem ints_same (p q : Option Addr) (l : List Int) (n m cap cap' : Nat) (w : World) (hn : n = l.length) (hm : m = l.length) (hp : Row intE w p l) (hq : Row intE w q l) (hl : l.length ≤ 1000000) :
    Calls Tryd.prog 9 #[.slice p n cap, .slice q m cap'] w (QPost (.bool true) w) := by
  subst hn hm
  have g0 : ((l.length : Int) != (l.length : Int)) = false := by simp
  have HP := Lib.hid hp
  have HQ := Lib.hid hq
  clear hp hq
  go_enter Tryd.func9, Tryd.ntmps9
  go_wp2
  go_loopw [5] (fun i wr => ∃ k n : Nat, k ≤ l.length ∧ i = .int .i64 k ∧ wr = w.drewN n) (fun i _ => l.length - (intOf i).toNat)
  case atStart => exact ⟨0, 0, Nat.zero_le _, rfl, rfl⟩
  case round =>
    obtain ⟨k, n, hk, rfl, hw⟩ := hrel
    have HW := Lib.hid hw
    clear hw
    by_cases hlt : k < l.length
    · obtain ⟨b, off, rfl, hc⟩ := HP.out.int hlt
      obtain ⟨b', off', rfl, hc'⟩ := HQ.out.int hlt
      have h1 : wr.cell? ⟨b, off + k, none⟩ = some (.int .i64 l[k]) := by rw [HW.out, World.cell?_drewN, hc]
      have h2 : wr.cell? ⟨b', off' + k, none⟩ = some (.int .i64 l[k]) := by rw [HW.out, World.cell?_drewN, hc']
      have b7 : (0 : Int) ≤ (k : Int) := by omega
      have b8 : (k : Int) < (l.length : Int) := by omega
      obtain ⟨x, hx⟩ : ∃ x, x = l[k] := ⟨_, rfl⟩
      rw [← hx] at h1 h2
      have g1 : (x != x) = false := by simp
      clear hc hc' hx
      go_wp2_with fail
      go_quiet (fail)
      go_wp2_with fail
      go_roundw
      case rel => exact ⟨k + 1, _, by omega, by go_num, by rw [HW.out, World.drewN_drewN]⟩
      case measure => simp [intOf]; omega
    · go_wp2_with fail
      go_ret
      exact ⟨rfl, n, HW.out⟩
end Go.Proofs.YtcheggdfcdokiaaDoor
