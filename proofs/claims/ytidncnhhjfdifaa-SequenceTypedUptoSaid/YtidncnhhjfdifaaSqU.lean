
/-
  follows: is a list of lines a subsequence of another?
-/
import Derived.Test.YtidncnhhjfdifaaSqT
namespace Go.Proofs.Ytidncnhhjfdifaa
open Go.RowKit
set_option maxRecDepth 4000
/-- is the first list of lines a subsequence of the second, as follows looks for it? -/
def subS : List ByteArray → List ByteArray → Bool
  | [], _ => true
  | _ :: _, [] => false
  | x :: l, y :: m => if y = x then subS l m else subS (x :: l) m
theorem subS_nil (m : List ByteArray) : subS [] m = true := by cases m <;> rfl
theorem subS_of : ∀ (m l : List ByteArray), l.Sublist m → subS l m = true
  | m, [], _ => subS_nil m
  | [], x :: l, h => by cases h
  | y :: m, x :: l, h => by
    unfold subS
    by_cases e : y = x
    · rw [if_pos e]
      refine subS_of m l ?_
      cases h with
      | cons _ h => exact (List.sublist_cons_self x l).trans h
      | cons_cons _ h => exact h
    · rw [if_neg e]
      refine subS_of m (x :: l) ?_
      cases h with
      | cons _ h => exact h
      | cons_cons _ h => exact (e rfl).elim
theorem sub_eq {l m : List ByteArray} {k i : Nat} (hk : k < l.length) (hi : i < m.length) (e : m[i] = l[k]) : subS (l.drop k) (m.drop i) = subS (l.drop (k + 1)) (m.drop (i + 1)) := by
  rw [List.drop_eq_getElem_cons hk, List.drop_eq_getElem_cons hi, subS, if_pos e]
theorem sub_ne {l m : List ByteArray} {k i : Nat} (hk : k < l.length) (hi : i < m.length) (e : m[i] ≠ l[k]) : subS (l.drop k) (m.drop i) = subS (l.drop k) (m.drop (i + 1)) := by
  rw [List.drop_eq_getElem_cons hk, List.drop_eq_getElem_cons hi, subS, if_neg e]
theorem sub_done {l m : List ByteArray} {k i : Nat} (hk : l.length ≤ k) : subS (l.drop k) (m.drop i) = true := by
  rw [List.drop_eq_nil_of_le hk, subS_nil]
theorem sub_end {l m : List ByteArray} {k i : Nat} (hk : k < l.length) (hi : m.length ≤ i) : subS (l.drop k) (m.drop i) = false := by
  rw [List.drop_eq_nil_of_le hi, List.drop_eq_getElem_cons hk]; rfl
set_option maxHeartbeats 1000000 in
theorem follows_any (p q : Option Addr) (l m : List ByteArray) (cap cap' : Nat) (w : World) (hp : Sts w p l) (hq : Sts w q m) :
    Calls Try.prog 33 #[.slice p l.length cap, .slice q m.length cap'] w (QPost (.bool (subS l m)) w) := by
  have hl1 := hp.len
  have hl2 := hq.len
  have HP := Lib.hid hp
  have HQ := Lib.hid hq
  clear hp hq
  generalize hB : subS l m = B
  have HB := Lib.hid hB
  clear hB
  go_enter Try.func33, Try.ntmps33
  go_wp2
  go_loopw [5, 6] (fun kv iv wr => ∃ k i n : Nat, k ≤ l.length ∧ i ≤ m.length ∧ kv = .int .i64 k ∧ iv = .int .i64 i ∧ wr = w.drewN n ∧ Hid (subS (l.drop k) (m.drop i) = B)) (fun _ iv _ => m.length - (intOf iv).toNat)
  case atStart => exact ⟨0, 0, 0, Nat.zero_le _, Nat.zero_le _, rfl, rfl, rfl, Lib.hid (by simpa using HB.out)⟩
  case round =>
    obtain ⟨k, i, n, hk, hi, rfl, rfl, hw, ht⟩ := hrel
    have HW := Lib.hid hw
    clear hw
    by_cases hlt : i < m.length
    · have b0 : decide ((i : Int) < (m.length : Int)) = true := decide_eq_true (by omega)
      have b0' : decide (i < m.length) = true := decide_eq_true hlt
      by_cases hlk : k < l.length
      · have b1 : decide ((k : Int) < (l.length : Int)) = true := decide_eq_true (by omega)
        have b1' : decide (k < l.length) = true := decide_eq_true hlk
        obtain ⟨b, off, rfl, hb, hc⟩ := HP.out.cell hlk
        obtain ⟨b', off', rfl, hb', hc'⟩ := HQ.out.cell hlt
        have h1 : wr.cell? ⟨b, off + k, none⟩ = some (.string l[k]) := by rw [HW.out, World.cell?_drewN, hc]
        have h2 : wr.cell? ⟨b', off' + i, none⟩ = some (.string m[i]) := by rw [HW.out, World.cell?_drewN, hc']
        have b6 : (0 : Int) ≤ (i : Int) := by omega
        have b7 : (0 : Int) ≤ (k : Int) := by omega
        have b8 : (k : Int) < (l.length : Int) := by omega
        have b9 : (i : Int) < (m.length : Int) := by omega
        have hE := @sub_eq l m k i hlk hlt
        have hN := @sub_ne l m k i hlk hlt
        obtain ⟨x, hx⟩ : ∃ x, x = l[k] := ⟨_, rfl⟩
        obtain ⟨y, hy⟩ : ∃ y, y = m[i] := ⟨_, rfl⟩
        rw [← hx] at h1 hE hN
        rw [← hy] at h2 hE hN
        by_cases he : y = x
        · have HN := Lib.hid ((hE he).symm.trans ht.out)
          subst he
          clear hc hc' hx hy hE hN
          go_wp2_with fail
          go_quiet (fail)
          go_wp2_with fail
          go_roundw
          case rel => exact ⟨k + 1, i + 1, _, by omega, by omega, by go_num, by go_num, by rw [HW.out, World.drewN_drewN], HN⟩
          case measure => simp [intOf]; omega
        · have HN := Lib.hid ((hN he).symm.trans ht.out)
          have e1 := tl_false he
          clear hc hc' hx hy hE hN he
          go_wp2_with fail
          go_quiet (fail)
          go_wp2_with fail
          go_roundw
          case rel => exact ⟨k, i + 1, _, by omega, by omega, rfl, by go_num, by rw [HW.out, World.drewN_drewN], HN⟩
          case measure => simp [intOf]; omega
      · have b1 : decide ((k : Int) < (l.length : Int)) = false := decide_eq_false (by omega)
        have b1' : decide (k < l.length) = false := decide_eq_false hlk
        have b2 : ((k : Int) == (l.length : Int)) = true := by simp; omega
        have b2' : (k == l.length) = true := by simp; omega
        have hB : Hid (B = true) := Lib.hid (ht.out.symm.trans (sub_done (by omega)))
        go_wp2_with fail
        go_ret
        exact ⟨by rw [hB.out]; rfl, n, HW.out⟩
    · have b0 : decide ((i : Int) < (m.length : Int)) = false := decide_eq_false (by omega)
      have b0' : decide (i < m.length) = false := decide_eq_false hlt
      by_cases hlk : k < l.length
      · have b2 : ((k : Int) == (l.length : Int)) = false := by simp; omega
        have b2' : (k == l.length) = false := by simp; omega
        have hB : Hid (B = false) := Lib.hid (ht.out.symm.trans (sub_end hlk (by omega)))
        go_wp2_with fail
        go_ret
        exact ⟨by rw [hB.out]; rfl, n, HW.out⟩
      · have b2 : ((k : Int) == (l.length : Int)) = true := by simp; omega
        have b2' : (k == l.length) = true := by simp; omega
        have hB : Hid (B = true) := Lib.hid (ht.out.symm.trans (sub_done (by omega)))
        go_wp2_with fail
        go_ret
        exact ⟨by rw [hB.out]; rfl, n, HW.out⟩
end Go.Proofs.Ytidncnhhjfdifaa
