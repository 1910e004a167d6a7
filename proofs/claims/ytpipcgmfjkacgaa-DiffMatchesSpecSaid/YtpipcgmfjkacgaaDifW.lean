/-
  The law's 'within', walked.
-/
import Derived.Test.YtpipcgmfjkacgaaDifM
import Derived.Test.YtpipcgmfjkacgaaLinC
namespace Go.Proofs.Ytpipcgmfjkacgaa
open Go.RowKit

/-- l is a subsequence of a -/
noncomputable def subS (l a : List ByteArray) : Bool := @decide (l.Sublist a) (Classical.propDecidable _)
theorem subS_true {l a : List ByteArray} (e : l.Sublist a) : subS l a = true := @decide_eq_true _ (Classical.propDecidable _) e
theorem subS_false {l a : List ByteArray} (e : ¬ l.Sublist a) : subS l a = false := @decide_eq_false _ (Classical.propDecidable _) e
theorem subS_iff {l a : List ByteArray} : subS l a = true ↔ l.Sublist a := by
  constructor
  · intro h
    by_cases e : l.Sublist a
    · exact e
    · rw [subS_false e] at h; cases h
  · exact subS_true
theorem sub_same {l a : List ByteArray} {k i : Nat} (hk : k < l.length) (hi : i < a.length) (e : a[i] = l[k]) (h : (l.drop k).Sublist (a.drop i) ↔ l.Sublist a) : (l.drop (k + 1)).Sublist (a.drop (i + 1)) ↔ l.Sublist a := by
  rw [← h, List.drop_eq_getElem_cons hk, List.drop_eq_getElem_cons hi, e]
  exact (List.cons_sublist_cons).symm
theorem sub_other {l a : List ByteArray} {k i : Nat} (hk : k < l.length) (hi : i < a.length) (e : ¬ a[i] = l[k]) (h : (l.drop k).Sublist (a.drop i) ↔ l.Sublist a) : (l.drop k).Sublist (a.drop (i + 1)) ↔ l.Sublist a := by
  rw [← h, List.drop_eq_getElem_cons hk, List.drop_eq_getElem_cons hi]
  exact ⟨fun h => h.cons _, fun h => Dif.sub_drop h (fun e' => e e'.symm)⟩
theorem sub_done {l a : List ByteArray} {k i : Nat} (hk : k = l.length) (h : (l.drop k).Sublist (a.drop i) ↔ l.Sublist a) : subS l a = true := by
  apply subS_true
  rw [← h, hk, List.drop_length]
  exact List.nil_sublist _
theorem sub_fail {l a : List ByteArray} {k i : Nat} (hk : k < l.length) (hi : a.length ≤ i) (h : (l.drop k).Sublist (a.drop i) ↔ l.Sublist a) : subS l a = false := by
  apply subS_false
  rw [← h, List.drop_eq_nil_of_le hi, List.sublist_nil, List.drop_eq_getElem_cons hk]
  exact List.cons_ne_nil _ _

set_option maxHeartbeats 4000000 in
theorem within_any (p q : Option Addr) (l a : List ByteArray) (n m cap cap' : Nat) (w : World) (hn : n = l.length) (hm : m = a.length) (hp : Sts w p l) (hq : Sts w q a) :
    Calls Try.prog 17 #[.slice p n cap, .slice q m cap'] w (QPost (.bool (subS l a)) w) := by
  subst hn hm
  have hl1 := hp.len
  have hl2 := hq.len
  have HP := Lib.hid hp
  have HQ := Lib.hid hq
  clear hp hq
  go_enter Try.func17, Try.ntmps17
  go_wp2_with fail
  go_loopw [5, 6] (fun x y wr => ∃ k i n : Nat, k ≤ l.length ∧ i ≤ a.length ∧ x = .int .i64 k ∧ y = .int .i64 i ∧ wr = w.drewN n ∧ Hid ((l.drop k).Sublist (a.drop i) ↔ l.Sublist a)) (fun _ y _ => a.length - (intOf y).toNat)
  case atStart => exact ⟨0, 0, 0, Nat.zero_le _, Nat.zero_le _, rfl, rfl, rfl, Lib.hid Iff.rfl⟩
  case round =>
    obtain ⟨k, i, n, hk, hi, rfl, rfl, hw, ht⟩ := hrel
    have HW := Lib.hid hw
    clear hw
    have b1 : (0 : Int) ≤ (k : Int) := by omega
    have b2 : (0 : Int) ≤ (i : Int) := by omega
    by_cases hil : i < a.length
    · have g1 : decide (i < a.length) = true := by simpa using hil
      have b3 : (i : Int) < (a.length : Int) := by omega
      by_cases hkl : k < l.length
      · have g2 : decide (k < l.length) = true := by simpa using hkl
        have b4 : (k : Int) < (l.length : Int) := by omega
        obtain ⟨b, off, rfl, hb, hc⟩ := HP.out.cell hkl
        obtain ⟨b', off', rfl, hb', hc'⟩ := HQ.out.cell hil
        have h1 : wr.cell? ⟨b, off + k, none⟩ = some (.string l[k]) := by rw [HW.out, World.cell?_drewN, hc]
        have h2 : wr.cell? ⟨b', off' + i, none⟩ = some (.string a[i]) := by rw [HW.out, World.cell?_drewN, hc']
        have hS := fun e => Lib.hid (sub_same hkl hil e ht.out)
        have hO := fun e => Lib.hid (sub_other hkl hil e ht.out)
        obtain ⟨x, hx⟩ : ∃ x, x = l[k] := ⟨_, rfl⟩
        obtain ⟨y, hy⟩ : ∃ y, y = a[i] := ⟨_, rfl⟩
        rw [← hx] at h1 hS hO
        rw [← hy] at h2 hS hO
        clear hx hy hc hc'
        by_cases he : y = x
        · have HN := hS he
          subst he
          clear hS hO
          go_wp2_with fail
          go_quiet (fail)
          go_wp2_with fail
          go_roundw
          case rel => exact ⟨k + 1, i + 1, _, hkl, hil, by go_num, by go_num, by rw [HW.out, World.drewN_drewN], HN⟩
          case measure => first | (simp [intOf]; done) | (simp [intOf]; omega)
        · have e1 := tl_false he
          have HN := hO he
          clear hS hO he
          go_wp2_with fail
          go_quiet (fail)
          go_wp2_with fail
          go_roundw
          case rel => exact ⟨k, i + 1, _, hk, hil, rfl, by go_num, by rw [HW.out, World.drewN_drewN], HN⟩
          case measure => first | (simp [intOf]; done) | (simp [intOf]; omega)
      · have g2 : decide (k < l.length) = false := by simpa using hkl
        have HE := Lib.hid (sub_done (l := l) (a := a) (by omega) ht.out)
        have g3 : ((k : Int) == (l.length : Int)) = true := by rw [beq_iff_eq]; omega
        have g3' : (k == l.length) = true := by rw [beq_iff_eq]; omega
        go_wp2_with fail
        go_ret
        exact ⟨by rw [HE.out]; rfl, _, HW.out⟩
    · have g1 : decide (i < a.length) = false := by simpa using hil
      by_cases hkl : k < l.length
      · have g3 : ((k : Int) == (l.length : Int)) = false := by rw [beq_eq_false_iff_ne]; omega
        have g3' : (k == l.length) = false := by rw [beq_eq_false_iff_ne]; omega
        have HE := Lib.hid (sub_fail (l := l) (a := a) hkl (by omega) ht.out)
        go_wp2_with fail
        go_ret
        exact ⟨by rw [HE.out]; rfl, _, HW.out⟩
      · have g3 : ((k : Int) == (l.length : Int)) = true := by rw [beq_iff_eq]; omega
        have g3' : (k == l.length) = true := by rw [beq_iff_eq]; omega
        have HE := Lib.hid (sub_done (l := l) (a := a) (by omega) ht.out)
        go_wp2_with fail
        go_ret
        exact ⟨by rw [HE.out]; rfl, _, HW.out⟩
end Go.Proofs.Ytpipcgmfjkacgaa
