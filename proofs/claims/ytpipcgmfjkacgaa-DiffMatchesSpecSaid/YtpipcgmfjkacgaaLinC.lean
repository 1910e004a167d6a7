/-
  Package lines: commonPrefix, commonSuffix, walked.
-/
import Derived.Test.YtpipcgmfjkacgaaLinB
import Derived.IntWalk
namespace Go.Proofs.Ytpipcgmfjkacgaa
open Go.RowKit

set_option maxHeartbeats 2000000 in
theorem prefix_any (p q : Option Addr) (l m : List ByteArray) (n k cap cap' : Nat) (w : World) (hn : n = l.length) (hk : k = m.length) (hp : Sts w p l) (hq : Sts w q m) :
    Calls Try.prog 33 #[.slice p n cap, .slice q k cap'] w (QPost (.int .i64 (Lin.cp l m : Nat)) w) := by
  subst hn hk
  have hl1 := hp.len
  have hl2 := hq.len
  have HP := Lib.hid hp
  have HQ := Lib.hid hq
  clear hp hq
  go_enter Try.func33, Try.ntmps33
  go_wp2
  go_loopw [5] (fun i wr => ∃ k n : Nat, k ≤ l.length ∧ k ≤ m.length ∧ i = .int .i64 k ∧ wr = w.drewN n ∧ Hid (l.take k = m.take k)) (fun i _ => l.length - (intOf i).toNat)
  case atStart => exact ⟨0, 0, Nat.zero_le _, Nat.zero_le _, rfl, rfl, Lib.hid rfl⟩
  case round =>
    obtain ⟨k, n, hk, hk2, rfl, hw, ht⟩ := hrel
    have HW := Lib.hid hw
    clear hw
    have b7 : (0 : Int) ≤ (k : Int) := by omega
    by_cases hlt : k < l.length
    · have g1 : decide (k < l.length) = true := by simpa using hlt
      have b8 : (k : Int) < (l.length : Int) := by omega
      by_cases hlt2 : k < m.length
      · have g2 : decide (k < m.length) = true := by simpa using hlt2
        have b9 : (k : Int) < (m.length : Int) := by omega
        obtain ⟨b, off, rfl, hb, hc⟩ := HP.out.cell hlt
        obtain ⟨b', off', rfl, hb', hc'⟩ := HQ.out.cell hlt2
        have h1 : wr.cell? ⟨b, off + k, none⟩ = some (.string l[k]) := by rw [HW.out, World.cell?_drewN, hc]
        have h2 : wr.cell? ⟨b', off' + k, none⟩ = some (.string m[k]) := by rw [HW.out, World.cell?_drewN, hc']
        have hn := take_next ht.out hlt hlt2
        have hs : l[k] ≠ m[k] → Lin.cp l m = k := fun hne => Lin.cp_stop l m k ht.out hk hk2 (.inr (.inr ⟨hlt, hlt2, hne⟩))
        obtain ⟨x, hx⟩ : ∃ x, x = l[k] := ⟨_, rfl⟩
        obtain ⟨y, hy⟩ : ∃ y, y = m[k] := ⟨_, rfl⟩
        rw [← hx] at h1 hn hs
        rw [← hy] at h2 hn hs
        by_cases he : x = y
        · have HN := Lib.hid (hn he)
          subst he
          clear hc hc' hx hy hn hs
          go_wp2_with fail
          go_quiet (fail)
          go_wp2_with fail
          go_roundw
          case rel => exact ⟨k + 1, _, by omega, by omega, by go_num, by rw [HW.out, World.drewN_drewN], HN⟩
          case measure => simp [intOf]; omega
        · have e1 := tl_false he
          have HE := Lib.hid (hs he)
          clear hc hc' hx hy hn hs he
          go_wp2_with fail
          go_quiet (fail)
          go_wp2_with fail
          go_ret
          exact ⟨by rw [HE.out]; rfl, _, by rw [HW.out, World.drewN_drewN]⟩
      · have g2 : decide (k < m.length) = false := by simpa using hlt2
        have HE := Lib.hid (Lin.cp_stop l m k ht.out hk hk2 (.inr (.inl (by omega))))
        go_wp2_with fail
        go_quiet (fail)
        go_wp2_with fail
        go_ret
        exact ⟨by rw [HE.out]; rfl, _, by rw [HW.out, World.drewN_drewN]⟩
    · have g1 : decide (k < l.length) = false := by simpa using hlt
      have HE := Lib.hid (Lin.cp_stop l m k ht.out hk hk2 (.inl (by omega)))
      go_wp2_with fail
      go_quiet (fail)
      go_wp2_with fail
      go_ret
      exact ⟨by rw [HE.out]; rfl, _, by rw [HW.out, World.drewN_drewN]⟩

set_option maxHeartbeats 2000000 in
theorem suffix_any (p q : Option Addr) (l m : List ByteArray) (n k cap cap' : Nat) (w : World) (hn : n = l.length) (hk : k = m.length) (hp : Sts w p l) (hq : Sts w q m) :
    Calls Try.prog 34 #[.slice p n cap, .slice q k cap'] w (QPost (.int .i64 (Lin.cs l m : Nat)) w) := by
  subst hn hk
  have hl1 := hp.len
  have hl2 := hq.len
  have HP := Lib.hid hp
  have HQ := Lib.hid hq
  clear hp hq
  go_enter Try.func34, Try.ntmps34
  go_wp2
  go_loopw [5] (fun i wr => ∃ k n : Nat, k ≤ l.length ∧ k ≤ m.length ∧ i = .int .i64 k ∧ wr = w.drewN n ∧ Hid (l.reverse.take k = m.reverse.take k)) (fun i _ => l.length - (intOf i).toNat)
  case atStart => exact ⟨0, 0, Nat.zero_le _, Nat.zero_le _, rfl, rfl, Lib.hid rfl⟩
  case round =>
    obtain ⟨k, n, hk, hk2, rfl, hw, ht⟩ := hrel
    have HW := Lib.hid hw
    clear hw
    have b7 : (0 : Int) ≤ (k : Int) := by omega
    by_cases hlt : k < l.length
    · have g1 : decide (k < l.length) = true := by simpa using hlt
      have b8 : (k : Int) < (l.length : Int) := by omega
      by_cases hlt2 : k < m.length
      · have g2 : decide (k < m.length) = true := by simpa using hlt2
        have b9 : (k : Int) < (m.length : Int) := by omega
        obtain ⟨i, hi⟩ : ∃ i, i = l.length - 1 - k := ⟨_, rfl⟩
        obtain ⟨j, hj⟩ : ∃ j, j = m.length - 1 - k := ⟨_, rfl⟩
        have hil : i < l.length := by omega
        have hjl : j < m.length := by omega
        obtain ⟨b, off, rfl, hb, hc⟩ := HP.out.cell hil
        obtain ⟨b', off', rfl, hb', hc'⟩ := HQ.out.cell hjl
        have h1 : wr.cell? ⟨b, off + i, none⟩ = some (.string l[i]) := by rw [HW.out, World.cell?_drewN, hc]
        have h2 : wr.cell? ⟨b', off' + j, none⟩ = some (.string m[j]) := by rw [HW.out, World.cell?_drewN, hc']
        have r1 : l.reverse[k]'(by simpa using hlt) = l[i] := by rw [List.getElem_reverse]; simp only [hi]
        have r2 : m.reverse[k]'(by simpa using hlt2) = m[j] := by rw [List.getElem_reverse]; simp only [hj]
        have hn := take_next ht.out (by simpa using hlt) (by simpa using hlt2)
        have hs : l[i] ≠ m[j] → Lin.cs l m = k := fun hne => Lin.cp_stop _ _ k ht.out (by simpa using hk) (by simpa using hk2) (.inr (.inr ⟨by simpa using hlt, by simpa using hlt2, by rw [r1, r2]; exact hne⟩))
        rw [r1, r2] at hn
        clear r1 r2
        obtain ⟨x, hx⟩ : ∃ x, x = l[i] := ⟨_, rfl⟩
        obtain ⟨y, hy⟩ : ∃ y, y = m[j] := ⟨_, rfl⟩
        rw [← hx] at h1 hn hs
        rw [← hy] at h2 hn hs
        have b1 : (i : Int) < (l.length : Int) := by omega
        have b2 : (j : Int) < (m.length : Int) := by omega
        have i1 : (l.length : Int) - 1 - (k : Int) = (i : Int) := by omega
        have i2 : (m.length : Int) - 1 - (k : Int) = (j : Int) := by omega
        have W1 : Hid (IntKind.i64.wrap ((l.length : Int) - 1) = (l.length : Int) - 1) := Lib.hid (IntWalk.i64_in _ (by omega))
        have W2 : Hid (IntKind.i64.wrap ((m.length : Int) - 1) = (m.length : Int) - 1) := Lib.hid (IntWalk.i64_in _ (by omega))
        have W3 : Hid (IntKind.i64.wrap ((i : Int)) = (i : Int)) := Lib.hid (IntWalk.i64_in _ (by omega))
        have W4 : Hid (IntKind.i64.wrap ((j : Int)) = (j : Int)) := Lib.hid (IntWalk.i64_in _ (by omega))
        by_cases he : x = y
        · have HN := Lib.hid (hn he)
          subst he
          clear hc hc' hx hy hn hs hi hj
          have w1 := W1.out; have w2 := W2.out; have w3 := W3.out; have w4 := W4.out
          go_wp2_with fail
          go_quiet (fail)
          clear i1 i2 w1 w2 w3 w4
          go_wp2_with fail
          go_roundw
          case rel => exact ⟨k + 1, _, by omega, by omega, by go_num, by rw [HW.out, World.drewN_drewN], HN⟩
          case measure => simp [intOf]; omega
        · have e1 := tl_false he
          have HE := Lib.hid (hs he)
          clear hc hc' hx hy hn hs he hi hj
          have w1 := W1.out; have w2 := W2.out; have w3 := W3.out; have w4 := W4.out
          go_wp2_with fail
          go_quiet (fail)
          clear i1 i2 w1 w2 w3 w4
          go_wp2_with fail
          go_ret
          exact ⟨by rw [HE.out]; rfl, _, by rw [HW.out, World.drewN_drewN]⟩
      · have g2 : decide (k < m.length) = false := by simpa using hlt2
        have HE := Lib.hid (Lin.cp_stop l.reverse m.reverse k ht.out (by simpa using hk) (by simpa using hk2) (.inr (.inl (by simp; omega))))
        go_wp2_with fail
        go_quiet (fail)
        go_wp2_with fail
        go_ret
        exact ⟨by unfold Lin.cs; rw [HE.out]; rfl, _, by rw [HW.out, World.drewN_drewN]⟩
    · have g1 : decide (k < l.length) = false := by simpa using hlt
      have HE := Lib.hid (Lin.cp_stop l.reverse m.reverse k ht.out (by simpa using hk) (by simpa using hk2) (.inl (by simp; omega)))
      go_wp2_with fail
      go_quiet (fail)
      go_wp2_with fail
      go_ret
      exact ⟨by unfold Lin.cs; rw [HE.out]; rfl, _, by rw [HW.out, World.drewN_drewN]⟩
end Go.Proofs.Ytpipcgmfjkacgaa
