/-
  Comparison of lists of strings; faults of lists of lines, the program's and the reference's, walked.
-/
import Derived.Test.YtolpbeemeignaaaMem
import Derived.Test.YtolpbeemeignaaaLinM
import Derived.Test.YtolpbeemeignaaaShelf
import Derived.LoopTactic
import Derived.Deep.QuietTactic
import Derived.BigQuiet
import Derived.Deep.RegionHeld3
import Derived.WalkSmall
import Derived.Lib.Hide
import Derived.Outline
namespace Go.Proofs.Ytolpbeemeignaaa
open Go.RowKit
set_option maxRecDepth 4000


theorem getD_of {l : List ByteArray} {i : Nat} (h : i < l.length) : l.getD i ByteArray.empty = l[i] := by
  rw [List.getD_eq_getElem?_getD, List.getElem?_eq_getElem h]; rfl
/-- the cell of string i -/
theorem Sts.cell {w : World} {p : Option Addr} {l : List ByteArray} (h : Sts w p l) {i : Nat} (hi : i < l.length) : ∃ b off, p = some ⟨b, off, none⟩ ∧ b < w.heap.size ∧ w.cell? ⟨b, off + i, none⟩ = some (.string l[i]) := by
  obtain ⟨b, off, rfl, hb, hc⟩ := h.at' (by intro e; subst e; simp at hi)
  exact ⟨b, off, rfl, hb, by rw [hc i hi, getD_of hi]⟩

set_option maxHeartbeats 400000 in
theorem at_any (c i : Int) (w : World) : Calls Try.prog 43 #[.int .i64 c, .int .i64 i] w (BPost (.agg #[.int .i64 c, .int .i64 i]) w) := by
  go_enter Try.func43, Try.ntmps43
  go_wp2
  go_returns
  refine ⟨rfl, ?_⟩; (repeat' (first | (with_reducible exact Below.refl _ _) | (with_reducible assumption) | (with_reducible refine below_drewN ?_ _) | (with_reducible refine Below.setCell ?_ ?_ _) | (with_reducible refine Below.alloc ?_ ?_ _) | (with_reducible refine Below.drew ?_) | go_size))

theorem eq_take {l m : List ByteArray} {k : Nat} (h : l.take k = m.take k) (hk : l.length ≤ k) (hl : l.length = m.length) : l = m := by
  rw [List.take_of_length_le hk, List.take_of_length_le (by omega)] at h; exact h
theorem take_next {l m : List ByteArray} {k : Nat} (h : l.take k = m.take k) (h1 : k < l.length) (h2 : k < m.length) (he : l[k] = m[k]) : l.take (k + 1) = m.take (k + 1) := by
  rw [List.take_succ_eq_append_getElem h1, List.take_succ_eq_append_getElem h2, h, he]
def eqS (l m : List ByteArray) : Bool := decide (l = m)
theorem eqS_true {l m : List ByteArray} (h : l = m) : eqS l m = true := decide_eq_true h
theorem eqS_false {l m : List ByteArray} (h : l ≠ m) : eqS l m = false := decide_eq_false h

theorem tl_inj {x y : ByteArray} (h : x.toList = y.toList) : x = y := by
  rw [ByteArray.toList_eq, ByteArray.toList_eq] at h
  cases x; cases y; simp at h; rw [h]
theorem tl_false {x y : ByteArray} (h : x ≠ y) : (x.toList == y.toList) = false := by
  rw [beq_eq_false_iff_ne]; exact fun e => h (tl_inj e)
theorem tl_true {x y : ByteArray} (h : x = y) : (x.toList == y.toList) = true := by subst h; exact beq_self_eq_true _

set_option maxHeartbeats 1000000 in
theorem equal_any (p q : Option Addr) (l m : List ByteArray) (n k cap cap' : Nat) (w : World) (hn : n = l.length) (hk : k = m.length) (hp : Sts w p l) (hq : Sts w q m) :
    Calls Try.prog 20 #[.slice p n cap, .slice q k cap'] w (QPost (.bool (eqS l m)) w) := by
  subst hn hk
  have hl1 := hp.len
  have hl2 := hq.len
  by_cases hlen : l.length = m.length
  · have g0 : ((l.length : Int) != (m.length : Int)) = false := by simp [hlen]
    have g0' : (l.length != m.length) = false := by simp [hlen]
    have HL := Lib.hid hlen
    have HP := Lib.hid hp
    have HQ := Lib.hid hq
    clear hlen hp hq
    go_enter Try.func20, Try.ntmps20
    go_wp2
    go_loopw [5] (fun i wr => ∃ k n : Nat, k ≤ l.length ∧ i = .int .i64 k ∧ wr = w.drewN n ∧ Hid (l.take k = m.take k)) (fun i _ => l.length - (intOf i).toNat)
    case atStart => exact ⟨0, 0, Nat.zero_le _, rfl, rfl, Lib.hid rfl⟩
    case round =>
      obtain ⟨k, n, hk, rfl, hw, ht⟩ := hrel
      have HW := Lib.hid hw
      clear hw
      by_cases hlt : k < l.length
      · have hlt2 : k < m.length := by have := HL.out; omega
        obtain ⟨b, off, rfl, hb, hc⟩ := HP.out.cell hlt
        obtain ⟨b', off', rfl, hb', hc'⟩ := HQ.out.cell hlt2
        have h1 : wr.cell? ⟨b, off + k, none⟩ = some (.string l[k]) := by rw [HW.out, World.cell?_drewN, hc]
        have h2 : wr.cell? ⟨b', off' + k, none⟩ = some (.string m[k]) := by rw [HW.out, World.cell?_drewN, hc']
        have b7 : (0 : Int) ≤ (k : Int) := by omega
        have b8 : (k : Int) < (l.length : Int) := by omega
        have b9 : (k : Int) < (m.length : Int) := by omega
        have hn := take_next ht.out hlt hlt2
        obtain ⟨x, hx⟩ : ∃ x, x = l[k] := ⟨_, rfl⟩
        obtain ⟨y, hy⟩ : ∃ y, y = m[k] := ⟨_, rfl⟩
        rw [← hx] at h1 hn
        rw [← hy] at h2 hn
        by_cases he : x = y
        · have HN := Lib.hid (hn he)
          subst he
          clear hc hc' hx hy hn
          go_wp2_with fail
          go_quiet (fail)
          go_wp2_with fail
          go_roundw
          case rel => exact ⟨k + 1, _, by omega, by go_num, by rw [HW.out, World.drewN_drewN], HN⟩
          case measure => simp [intOf]; omega
        · have hne : eqS l m = false := eqS_false (fun e => he (by rw [hx, hy]; congr 1))
          have e1 := tl_false he
          have HE := Lib.hid hne
          clear hc hc' hx hy hn hne he
          go_wp2_with fail
          go_quiet (fail)
          go_wp2_with fail
          go_ret
          exact ⟨by rw [HE.out]; rfl, _, by rw [HW.out, World.drewN_drewN]⟩
      · have hk' : Hid (eqS l m = true) := Lib.hid (eqS_true (eq_take ht.out (by omega) HL.out))
        go_wp2_with fail
        go_ret
        exact ⟨by rw [hk'.out]; rfl, n, HW.out⟩
  · have g0 : ((l.length : Int) != (m.length : Int)) = true := by simp; omega
    have g0' : (l.length != m.length) = true := by simp [hlen]
    have hne : Hid (eqS l m = false) := Lib.hid (eqS_false (fun e => hlen (by rw [e])))
    have HL := Lib.hid hlen
    clear hlen
    go_enter Try.func20, Try.ntmps20
    go_wp2
    go_ret
    exact ⟨by rw [hne.out]; rfl, 0, rfl⟩
end Go.Proofs.Ytolpbeemeignaaa
