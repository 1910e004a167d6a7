
/-
  changeforgeequal.Patch, walked.
-/
import Derived.Test.YteamghlcaalapaaDoorDifP
import Derived.IntWalk
namespace Go.Proofs.YteamghlcaalapaaDoor
open Go.RowKit
set_option maxRecDepth 4000

/-- two lists of hunks are one -/
noncomputable def eqP (h k : List (Dif.Hk ByteArray)) : Bool := @decide (h = k) (Classical.propDecidable _)
theorem eqP_true {h k : List (Dif.Hk ByteArray)} (e : h = k) : eqP h k = true := @decide_eq_true _ (Classical.propDecidable _) e
theorem eqP_false {h k : List (Dif.Hk ByteArray)} (e : h ≠ k) : eqP h k = false := @decide_eq_false _ (Classical.propDecidable _) e
theorem hk_ext {h k : Dif.Hk ByteArray} (h1 : h.at' = k.at') (h2 : h.old = k.old) (h3 : h.new = k.new) : h = k := by
  cases h; cases k; simp_all
theorem Ptc.cell {w : World} {p : Option Addr} {hs : List (Dif.Hk ByteArray)} (h : Ptc w p hs) {i : Nat} (hi : i < hs.length) :
    ∃ b off, p = some ⟨b, off, none⟩ ∧ b < w.heap.size ∧ ∃ o n : Sv, w.cell? ⟨b, off + i * 3, none⟩ = some (.int .i64 hs[i].at') ∧ w.cell? ⟨b, off + i * 3 + 1, none⟩ = some (sv o) ∧ w.cell? ⟨b, off + i * 3 + 2, none⟩ = some (sv n) ∧ Rd w o hs[i].old ∧ Rd w n hs[i].new := by
  obtain ⟨b, off, h1, h2, h3⟩ := h.at' (by intro e; subst e; simp at hi)
  exact ⟨b, off, h1, h2, h3 i hi⟩
theorem strings_any (o o' : Sv) (l m : List ByteArray) (w : World) (h : Rd w o l) (h' : Rd w o' m) : Calls Tryd.prog 12 #[sv o, sv o'] w (QPost (.bool (eqS l m)) w) :=
  equal_any _ _ l m _ _ _ _ w h.len h'.len h.sts h'.sts
theorem Rd.drewN {w : World} {s : Sv} {l : List ByteArray} (h : Rd w s l) (n : Nat) : Rd (w.drewN n) s l := ⟨sts_drew h.sts n, h.len, h.cap0, h.cap⟩
theorem take_snoc {h k : List (Dif.Hk ByteArray)} {i : Nat} (e : h.take i = k.take i) (hi : i < h.length) (hi' : i < k.length) (e1 : h[i] = k[i]) : h.take (i + 1) = k.take (i + 1) := by
  rw [List.take_succ_eq_append_getElem hi, List.take_succ_eq_append_getElem hi', e, e1]

set_option maxRecDepth 100000 in
set_option maxHeartbeats 4000000 in
theorem patchEq_any (p q : Option Addr) (hs ks : List (Dif.Hk ByteArray)) (n m cap cap' : Nat) (w : World) (hn : n = hs.length) (hm : m = ks.length) (hp : Ptc w p hs) (hq : Ptc w q ks) (hl : hs.length ≤ 100000000) :
    Calls Tryd.prog 17 #[.agg #[.slice p n cap], .agg #[.slice q m cap']] w (BPost (.bool (eqP hs ks)) w) := by
  subst hn hm
  have HP := Lib.hid hp
  have HQ := Lib.hid hq
  clear hp hq
  by_cases hlen : hs.length = ks.length
  · have g0 : ((hs.length : Int) != (ks.length : Int)) = false := by simp [hlen]
    have g0' : (hs.length != ks.length) = false := by simp [hlen]
    have HL := Lib.hid hlen
    clear hlen
    go_enter Tryd.func17, Tryd.ntmps17
    go_wp2_with fail
    have W0 := Lib.hid (((Below.refl w.heap.size w).alloc (Nat.le_refl _) (.cells #[.slice p hs.length cap] 25 (0, 0))).alloc (by simp) (.cells #[.slice q ks.length cap'] 25 (0, 0)))
    have f2 : ((w.alloc (.cells #[.slice p hs.length cap] 25 (0, 0))).alloc (.cells #[.slice q ks.length cap'] 25 (0, 0))).cell? ⟨w.heap.size, 0, none⟩ = some (.slice p hs.length cap) := by
      rw [((Below.refl (w.heap.size + 1) _).alloc (by simp) _).cell (p := ⟨w.heap.size, 0, none⟩) (by dsimp only; omega), World.cell?_alloc_mark]; rfl
    have f3 : ((w.alloc (.cells #[.slice p hs.length cap] 25 (0, 0))).alloc (.cells #[.slice q ks.length cap'] 25 (0, 0))).cell? ⟨w.heap.size + 1, 0, none⟩ = some (.slice q ks.length cap') := by
      rw [show w.heap.size + 1 = (w.alloc (.cells #[.slice p hs.length cap] 25 (0, 0))).heap.size by simp, World.cell?_alloc_mark]; rfl
    obtain ⟨X, hX⟩ : ∃ X, X = (w.alloc (.cells #[.slice p hs.length cap] 25 (0, 0))).alloc (.cells #[.slice q ks.length cap'] 25 (0, 0)) := ⟨_, rfl⟩
    rw [← hX] at W0 f2 f3 ⊢
    clear hX g0 g0'
    go_loopw [5] (fun i wr => ∃ k n : Nat, k ≤ hs.length ∧ i = .int .i64 k ∧ wr = X.drewN n ∧ Hid (hs.take k = ks.take k)) (fun i _ => hs.length - (intOf i).toNat)
    case atStart => exact ⟨0, 0, Nat.zero_le _, rfl, rfl, Lib.hid rfl⟩
    case round =>
      obtain ⟨k, n, hk, rfl, hw, ht⟩ := hrel
      have F2 : wr.cell? ⟨w.heap.size, 0, none⟩ = some (.slice p hs.length cap) := by rw [hw, World.cell?_drewN, f2]
      have F3 : wr.cell? ⟨w.heap.size + 1, 0, none⟩ = some (.slice q ks.length cap') := by rw [hw, World.cell?_drewN, f3]
      have B0 : Hid (Below w.heap.size w wr) := Lib.hid (by rw [hw]; exact below_drewN W0.out n)
      have HW := Lib.hid hw
      clear hw f2 f3
      have b7 : (0 : Int) ≤ (k : Int) := by omega
      by_cases hlt : k < hs.length
      · have hlt2 : k < ks.length := by have := HL.out; omega
        have g1 : decide (k < hs.length) = true := by simpa using hlt
        have b8 : (k : Int) < (hs.length : Int) := by omega
        have b9 : (k : Int) < (ks.length : Int) := by omega
        obtain ⟨b, off, rfl, hb, o, nn, c0, c1, c2, r1, r2⟩ := (HP.out.mono B0.out).cell hlt
        obtain ⟨b', off', rfl, hb', o', nn', c0', c1', c2', r1', r2'⟩ := (HQ.out.mono B0.out).cell hlt2
        have R1 := Lib.hid r1
        have R2 := Lib.hid r2
        have R1' := Lib.hid r1'
        have R2' := Lib.hid r2'
        have EX : Hid (hs[k].at' = ks[k].at' → hs[k].old = ks[k].old → hs[k].new = ks[k].new → hs.take (k + 1) = ks.take (k + 1)) := Lib.hid (fun e1 e2 e3 => take_snoc ht.out hlt hlt2 (hk_ext e1 e2 e3))
        have NE : Hid (hs[k] ≠ ks[k] → eqP hs ks = false) := Lib.hid (fun hne => eqP_false (fun e => hne (by simp only [e])))
        obtain ⟨u, hu⟩ : ∃ u, u = hs[k] := ⟨_, rfl⟩
        obtain ⟨u', hu'⟩ : ∃ u', u' = ks[k] := ⟨_, rfl⟩
        rw [← hu] at c0 R1 R2 EX NE
        rw [← hu'] at c0' R1' R2' EX NE
        clear r1 r2 r1' r2' hu hu'
        by_cases e1 : u.at' = u'.at'
        · have g2 : (u.at' != u'.at') = false := by simp [e1]
          by_cases e2 : u.old = u'.old
          · have g3 := eqS_true e2
            by_cases e3 : u.new = u'.new
            · have g4 := eqS_true e3
              have HN := Lib.hid (EX.out e1 e2 e3)
              clear e1 e2 e3
              go_wp2_with fail
              go_quiet ((first
                | (go_at_call_of 12 (sv o'); exact Calls.quiet_of (strings_any _ _ _ _ _ (R1.out.drewN _) (R1'.out.drewN _)))
                | (go_at_call_of 12 (sv nn'); exact Calls.quiet_of (strings_any _ _ _ _ _ (R2.out.drewN _) (R2'.out.drewN _)))))
              go_wp2_with fail
              go_roundw
              case rel => exact ⟨k + 1, _, hlt, by go_num, by rw [HW.out, World.drewN_drewN], HN⟩
              case measure => first | (simp [intOf]; done) | (simp [intOf]; omega)
            · have g4 := eqS_false e3
              have HF := Lib.hid (NE.out (fun e => e3 (by rw [e])))
              clear e1 e2 e3
              go_wp2_with fail
              go_quiet ((first
                | (go_at_call_of 12 (sv o'); exact Calls.quiet_of (strings_any _ _ _ _ _ (R1.out.drewN _) (R1'.out.drewN _)))
                | (go_at_call_of 12 (sv nn'); exact Calls.quiet_of (strings_any _ _ _ _ _ (R2.out.drewN _) (R2'.out.drewN _)))))
              go_wp2_with fail
              go_ret
              exact ⟨by rw [HF.out]; rfl, below_drewN B0.out _⟩
          · have g3 := eqS_false e2
            have HF := Lib.hid (NE.out (fun e => e2 (by rw [e])))
            clear e1 e2
            go_wp2_with fail
            go_quiet ((go_at_call_of 12 (sv o'); exact Calls.quiet_of (strings_any _ _ _ _ _ (R1.out.drewN _) (R1'.out.drewN _))))
            go_wp2_with fail
            go_ret
            exact ⟨by rw [HF.out]; rfl, below_drewN B0.out _⟩
        · have g2 : (u.at' != u'.at') = true := by simp [e1]
          have HF := Lib.hid (NE.out (fun e => e1 (by rw [e])))
          clear e1
          go_wp2_with fail
          go_quiet (fail)
          go_wp2_with fail
          go_ret
          exact ⟨by rw [HF.out]; rfl, below_drewN B0.out _⟩
      · have g1 : decide (k < hs.length) = false := by simpa using hlt
        have HE := Lib.hid (eqP_true (h := hs) (k := ks) (by
          have h1 := ht.out
          rwa [List.take_of_length_le (by omega), List.take_of_length_le (by have := HL.out; omega)] at h1))
        go_wp2_with fail
        go_ret
        exact ⟨by rw [HE.out]; rfl, B0.out⟩
  · have g0 : ((hs.length : Int) != (ks.length : Int)) = true := by rw [bne_iff_ne]; omega
    have g0' : (hs.length != ks.length) = true := by rw [bne_iff_ne]; exact hlen
    have E := Lib.hid (eqP_false (h := hs) (k := ks) (fun e => hlen (by rw [e])))
    clear hlen
    go_enter Tryd.func17, Tryd.ntmps17
    go_wp2_with fail
    go_ret
    refine ⟨by rw [E.out]; rfl, ?_⟩
    (repeat' (first | (with_reducible exact Below.refl _ _) | (with_reducible assumption) | (with_reducible refine below_drewN ?_ _) | (with_reducible refine Below.setCell ?_ ?_ _) | (with_reducible refine Below.alloc ?_ ?_ _) | (with_reducible refine Below.drew ?_) | go_size))
end Go.Proofs.YteamghlcaalapaaDoor
