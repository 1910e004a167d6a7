/-
  The law's grown and cost, walked.
-/
import Derived.Test.YtidjdoamnbilaaaTpE
namespace Go.Proofs.Ytidjdoamnbilaaa
open Go.RowKit

namespace Tp
theorem co_next (hs : List H) (k : Nat) (h : k < hs.length) : co (hs.take (k + 1)) = co (hs.take k) + (hs[k].old.length + hs[k].new.length) := by
  rw [List.take_succ_eq_append_getElem h, co_app]; simp [co]
theorem co_bound (hs : List H) (hv : ∀ h ∈ hs, h.old.length ≤ 120 ∧ h.new.length ≤ 120) : co hs ≤ 240 * hs.length := by
  induction hs with
  | nil => simp [co]
  | cons h r ih =>
    have h1 := ih (fun x hx => hv x (List.mem_cons_of_mem _ hx))
    obtain ⟨h3, h4⟩ := hv h (List.mem_cons_self ..)
    simp only [co, List.length_cons]
    omega
end Tp
set_option maxHeartbeats 2000000 in
theorem grown_any (p : Option Addr) (hs : List Tp.H) (n cap : Nat) (w : World) (hn : n = hs.length) (hp : Ptc w p hs) (hl : hs.length ≤ 1000) (hv : ∀ h ∈ hs, h.old.length ≤ 120 ∧ h.new.length ≤ 120) :
    Calls Try.prog 23 #[.agg #[.slice p n cap]] w (BPost (.int .i64 (Tp.gr hs)) w) := by
  subst hn
  have HP := Lib.hid hp
  have HV := Lib.hid hv
  clear hp hv
  have up0 : Below w.heap.size w (w.alloc (.cells #[.slice p hs.length cap] 24 (0, 0))) := up_alloc (Below.refl _ _) _
  have O0 := Lib.hid (One.new w (.slice p hs.length cap) 24 w.heap.size rfl)
  have hz0 : (w.alloc (.cells #[.slice p hs.length cap] 24 (0, 0))).heap.size = w.heap.size + 1 := by simp
  go_enter Try.func23, Try.ntmps23
  go_wp2_with fail
  obtain ⟨X, hX⟩ : ∃ X, X = w.alloc (.cells #[.slice p hs.length cap] 24 (0, 0)) := ⟨_, rfl⟩
  rw [← hX] at up0 O0 hz0 ⊢
  clear hX
  go_loopw [3, 4] (fun s i wr => ∃ k : Nat, k ≤ hs.length ∧ i = .int .i64 k ∧ s = .int .i64 (Tp.gr (hs.take k)) ∧ Hid (Below X.heap.size X wr)) (fun _ i _ => hs.length - (intOf i).toNat)
  case atStart => exact ⟨0, Nat.zero_le _, rfl, by simp [Tp.gr], Lib.hid (Below.refl _ _)⟩
  case round =>
    obtain ⟨k, hk, rfl, rfl, hB⟩ := hrel
    have b0 : (0 : Int) ≤ (k : Int) := by omega
    have uw := up0.trans (hB.out.mono (show w.heap.size ≤ X.heap.size by omega))
    have oc : wr.cell? ⟨w.heap.size, 0, none⟩ = some (.slice p hs.length cap) := (hB.out.cell (p := ⟨w.heap.size, 0, none⟩) (by dsimp only; omega)).trans O0.out.c
    by_cases hlt : k < hs.length
    · have g1 : decide (k < hs.length) = true := by simpa using hlt
      have b1 : (k : Int) < (hs.length : Int) := by omega
      obtain ⟨b, off, rfl, hbb, ⟨o1, o2, o3⟩, ⟨n1, n2, n3⟩, c0, c1, c2, r1, r2⟩ := (HP.out.mono uw).cell hlt
      have l1 := r1.len
      have l2 := r2.len
      dsimp only at l1 l2
      subst l1 l2
      simp only [sv] at c1 c2
      have q1 := HV.out hs[k] (List.getElem_mem _)
      have GB := Tp.gr_bound (hs.take k) (fun h hh => HV.out h (List.mem_of_mem_take hh))
      rw [List.length_take, Nat.min_eq_left hk] at GB
      have GN := Lib.hid (Tp.gr_next hs k hlt)
      have w1 : IntKind.i64.wrap (Tp.gr (hs.take k) + (hs[k].new.length : Int)) = Tp.gr (hs.take k) + (hs[k].new.length : Int) := IntWalk.i64_in _ (by omega)
      have w2 : IntKind.i64.wrap (Tp.gr (hs.take k) + (hs[k].new.length : Int) - (hs[k].old.length : Int)) = Tp.gr (hs.take k) + (hs[k].new.length : Int) - (hs[k].old.length : Int) := IntWalk.i64_in _ (by omega)
      clear GB r1 r2 c0
      go_wp2_with fail
      go_region
      go_wp2_with fail
      go_roundw
      case rel => exact ⟨k + 1, hlt, by go_num, by rw [GN.out]; congr 1; omega, Lib.hid (by first | exact hB.out | exact below_drewN hB.out _)⟩
      case measure => first | (simp [intOf]; done) | (simp [intOf]; omega)
    · have g1 : decide (k < hs.length) = false := by simpa using hlt
      obtain rfl : k = hs.length := by omega
      rw [List.take_length]
      go_wp2_with fail
      go_ret
      exact ⟨rfl, uw⟩
set_option maxHeartbeats 2000000 in
theorem cost_any (p : Option Addr) (hs : List Tp.H) (n cap : Nat) (w : World) (hn : n = hs.length) (hp : Ptc w p hs) (hl : hs.length ≤ 1000) (hv : ∀ h ∈ hs, h.old.length ≤ 120 ∧ h.new.length ≤ 120) :
    Calls Try.prog 26 #[.agg #[.slice p n cap]] w (BPost (.int .i64 ((Tp.co hs : Nat) : Int)) w) := by
  subst hn
  have HP := Lib.hid hp
  have HV := Lib.hid hv
  clear hp hv
  have up0 : Below w.heap.size w (w.alloc (.cells #[.slice p hs.length cap] 24 (0, 0))) := up_alloc (Below.refl _ _) _
  have O0 := Lib.hid (One.new w (.slice p hs.length cap) 24 w.heap.size rfl)
  have hz0 : (w.alloc (.cells #[.slice p hs.length cap] 24 (0, 0))).heap.size = w.heap.size + 1 := by simp
  go_enter Try.func26, Try.ntmps26
  go_wp2_with fail
  obtain ⟨X, hX⟩ : ∃ X, X = w.alloc (.cells #[.slice p hs.length cap] 24 (0, 0)) := ⟨_, rfl⟩
  rw [← hX] at up0 O0 hz0 ⊢
  clear hX
  go_loopw [3, 4] (fun s i wr => ∃ k : Nat, k ≤ hs.length ∧ i = .int .i64 k ∧ s = .int .i64 ((Tp.co (hs.take k) : Nat) : Int) ∧ Hid (Below X.heap.size X wr)) (fun _ i _ => hs.length - (intOf i).toNat)
  case atStart => exact ⟨0, Nat.zero_le _, rfl, by simp [Tp.co], Lib.hid (Below.refl _ _)⟩
  case round =>
    obtain ⟨k, hk, rfl, rfl, hB⟩ := hrel
    have b0 : (0 : Int) ≤ (k : Int) := by omega
    have uw := up0.trans (hB.out.mono (show w.heap.size ≤ X.heap.size by omega))
    have oc : wr.cell? ⟨w.heap.size, 0, none⟩ = some (.slice p hs.length cap) := (hB.out.cell (p := ⟨w.heap.size, 0, none⟩) (by dsimp only; omega)).trans O0.out.c
    by_cases hlt : k < hs.length
    · have g1 : decide (k < hs.length) = true := by simpa using hlt
      have b1 : (k : Int) < (hs.length : Int) := by omega
      obtain ⟨b, off, rfl, hbb, ⟨o1, o2, o3⟩, ⟨n1, n2, n3⟩, c0, c1, c2, r1, r2⟩ := (HP.out.mono uw).cell hlt
      have l1 := r1.len
      have l2 := r2.len
      dsimp only at l1 l2
      subst l1 l2
      simp only [sv] at c1 c2
      have q1 := HV.out hs[k] (List.getElem_mem _)
      have GB := Tp.co_bound (hs.take k) (fun h hh => HV.out h (List.mem_of_mem_take hh))
      rw [List.length_take, Nat.min_eq_left hk] at GB
      have GN := Lib.hid (Tp.co_next hs k hlt)
      have w1 : IntKind.i64.wrap (((Tp.co (hs.take k) : Nat) : Int) + (hs[k].old.length : Int)) = ((Tp.co (hs.take k) : Nat) : Int) + (hs[k].old.length : Int) := IntWalk.i64_in _ (by omega)
      have w2 : IntKind.i64.wrap (((Tp.co (hs.take k) : Nat) : Int) + (hs[k].old.length : Int) + (hs[k].new.length : Int)) = ((Tp.co (hs.take k) : Nat) : Int) + (hs[k].old.length : Int) + (hs[k].new.length : Int) := IntWalk.i64_in _ (by omega)
      clear GB r1 r2 c0
      go_wp2_with fail
      go_region
      go_wp2_with fail
      go_roundw
      case rel => exact ⟨k + 1, hlt, by go_num, by rw [GN.out]; congr 1; omega, Lib.hid (by first | exact hB.out | exact below_drewN hB.out _)⟩
      case measure => first | (simp [intOf]; done) | (simp [intOf]; omega)
    · have g1 : decide (k < hs.length) = false := by simpa using hlt
      obtain rfl : k = hs.length := by omega
      rw [List.take_length]
      go_wp2_with fail
      go_ret
      exact ⟨rfl, uw⟩
end Go.Proofs.Ytidjdoamnbilaaa
