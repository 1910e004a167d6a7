/-
  The reference function DigestStrings, walked.
-/
import Derived.Test.YtholdclfckkidaaDigR
namespace Go.Proofs.Ytholdclfckkidaa
open Go.RowKit Go.Lib

set_option maxHeartbeats 400000 in
theorem refStrings_long (p : Option Addr) (n cap : Nat) (h : 120 < n) (hn : n ≤ 281474976710656) (w : World) :
    Calls Try.prog 16 #[.slice p n cap] w (BPost (.tuple #[.int .i64 0, .agg #[.int .i64 2, .int .i64 (-1)]]) w) := by
  have g : decide ((120 : Int) < (n : Int)) = true := by rw [decide_eq_true_iff]; omega
  go_enter Try.func16, Try.ntmps16
  go_wp2_with fail
  refine (at_any _ _ _).mono ?_
  rintro e w1 ⟨rfl, hb1⟩
  obtain ⟨c0, c1, f0, f1, l0⟩ := (Flt.new w 0 0 25).up hb1
  go_wp2_with fail
  obtain ⟨d0, d1, d2⟩ := set2 c0 c1 (.int .i64 2) (.int .i64 (-1))
  refine bodyPost_ret (v := .tuple #[.int .i64 0, .agg #[.int .i64 2, .int .i64 (-1)]]) (by simp [results, Try.results16, go_sem, d0, d2]) rfl ?_
  refine ⟨rfl, ?_⟩
  have u1 := up_call (up_alloc (Below.refl _ w) _) hb1
  (repeat' (first | (with_reducible exact Below.refl _ _) | (with_reducible assumption) | (with_reducible refine below_drewN ?_ _) | (with_reducible refine Below.setCell ?_ ?_ _) | (with_reducible refine Below.alloc ?_ ?_ _) | (with_reducible refine Below.drew ?_) | go_size))

set_option maxHeartbeats 1000000 in
set_option maxRecDepth 100000 in
theorem refStrings_ok (p : Option Addr) (l : List ByteArray) (cap : Nat) (h : l.length ≤ 120) (hall : ∀ s ∈ l, s.size ≤ 4096) (w : World) (hp : Sts w p l) :
    Calls Try.prog 16 #[.slice p l.length cap] w (BPost (.tuple #[.int .i64 (Dig.dstr (l.map bl)), (.agg #[.int .i64 0, .int .i64 0])]) w) := by
  have g0 : decide (120 < (l.length : Int)) = false := by rw [decide_eq_false_iff_not]; omega
  by_cases hnil : l = []
  · subst hnil
    clear g0
    go_enter Try.func16, Try.ntmps16
    go_wp2
    go_rounds 1
    go_returns
    refine ⟨rfl, ?_⟩; (repeat' (first | (with_reducible exact Below.refl _ _) | (with_reducible assumption) | (with_reducible refine below_drewN ?_ _) | (with_reducible refine Below.setCell ?_ ?_ _) | (with_reducible refine Below.alloc ?_ ?_ _) | (with_reducible refine Below.drew ?_) | go_size))
  · obtain ⟨hs, hlen, _, hat⟩ := hp
    obtain ⟨b, off, rfl, hb, hc⟩ := hat hnil
    have hH := Lib.hid hc
    have hA := Lib.hid hall
    clear hc hs hat hall
    have hcv := fun w s => run_bytes_of_string (P := Try.prog) w 9 22 5 s Try.underlying9 Try.underlying22 Try.underlying5
    go_enter Try.func16, Try.ntmps16
    go_wp2_with fail
    go_loopw [4, 5] (fun x i wr => ∃ k : Nat, k ≤ l.length ∧ i = .int .i64 k ∧ x = .int .i64 (Dig.dstr ((l.take k).map bl)) ∧ Below (w.heap.size + 1) (w.alloc (.cells #[.int .i64 0, .int .i64 0] 25 (0, 0))) wr) (fun _ i _ => l.length - (intOf i).toNat)
    case atStart => exact ⟨0, Nat.zero_le _, rfl, rfl, Below.refl _ _⟩
    case round =>
      obtain ⟨k, hk, rfl, rfl, hbel⟩ := hrel
      obtain ⟨c0, c1, f0, f1, hz⟩ := kept2 rfl hbel
      by_cases hlt : k < l.length
      · obtain ⟨x, hx⟩ : ∃ x, x = l[k] := ⟨_, rfl⟩
        have h1 : wr.cell? ⟨b, off + k, none⟩ = some (.string x) := by
          rw [hbel.cell (p := ⟨b, off + k, none⟩) (by simp; omega), World.cell?_alloc_lt _ _ _ hb, hH.out k hlt, hx]; simp [List.getD_eq_getElem?_getD, hlt]
        have h2 : x.size ≤ 4096 := by rw [hx]; exact hA.out _ (List.getElem_mem _)
        have h2' : decide ((4096 : Int) < (x.size : Int)) = false := by rw [decide_eq_false_iff_not]; omega
        have h3 : Hid (Dig.pr (Dig.dstr ((l.take k).map bl)) (Dig.dof (bl x)) = Dig.dstr ((l.take (k + 1)).map bl)) := Lib.hid (by rw [Dig.take_snoc l k hlt, List.map_append, List.map_singleton, Dig.dstr_snoc, hx])
        have h4 := Dig.dstr_lt ((l.take k).map bl)
        have h5 := Dig.dof_lt (bl x)
        clear hx
        obtain ⟨d, hd⟩ : ∃ d, d = Dig.dstr ((l.take k).map bl) := ⟨_, rfl⟩
        rw [← hd] at h3 h4 ⊢
        clear hd
        go_wp2_with (rw [hcv])
        refine (refOf_any _ (bl x) _ _ _ (bl_length x).symm (bts_drew (bts_new _ _ x _ _ _ rfl (by omega)) 1)).mono ?_
        rintro e w1 ⟨rfl, n1, rfl⟩
        go_wp2_with fail
        refine (refPair_any d (Dig.dof (bl x)) h4 h5 _).mono ?_
        rintro e w' ⟨rfl, rfl⟩
        rw [h3.out]
        go_wp2_with fail
        go_roundw
        case rel =>
          refine ⟨k + 1, by omega, by go_num, by simp [List.map_take], ?_⟩
          (repeat' (first | (with_reducible exact Below.refl _ _) | (with_reducible assumption) | (with_reducible refine below_drewN ?_ _) | (with_reducible refine Below.setCell ?_ ?_ _) | (with_reducible refine Below.alloc ?_ ?_ _) | (with_reducible refine Below.drew ?_) | go_size))
        case measure => simp [intOf]; omega
      · have hk' : Hid (l.take k = l) := Lib.hid (List.take_of_length_le (by omega))
        go_wp2_with fail
        obtain ⟨d0, d1, d2⟩ := set2 c0 c1 (.int .i64 0) (.int .i64 0)
        refine bodyPost_ret (v := .tuple #[.int .i64 (Dig.dstr ((l.take k).map bl)), (.agg #[.int .i64 0, .int .i64 0])]) (by simp [results, Try.results16, go_sem, d0, d2]) rfl ?_
        rw [hk'.out]
        refine ⟨rfl, ?_⟩
        have hb2 : Below w.heap.size w wr := ((Below.refl _ _).alloc (Nat.le_refl _) _).trans (hbel.mono (by omega))
        (repeat' (first | (with_reducible exact Below.refl _ _) | (with_reducible assumption) | (with_reducible refine below_drewN ?_ _) | (with_reducible refine Below.setCell ?_ ?_ _) | (with_reducible refine Below.alloc ?_ ?_ _) | (with_reducible refine Below.drew ?_) | go_size))

set_option maxHeartbeats 1000000 in
set_option maxRecDepth 100000 in
theorem refStrings_bad (p : Option Addr) (l : List ByteArray) (cap j : Nat) (h : l.length ≤ 120) (hj : j < l.length) (hbad : 4096 < l[j].size) (hall : ∀ i (hi : i < j), (l[i]'(by omega)).size ≤ 4096) (w : World) (hp : Sts w p l) :
    Calls Try.prog 16 #[.slice p l.length cap] w (BPost (.tuple #[.int .i64 0, .agg #[.int .i64 2, .int .i64 j]]) w) := by
  have g0 : decide (120 < (l.length : Int)) = false := by rw [decide_eq_false_iff_not]; omega
  have hnil : l ≠ [] := by intro e; subst e; simp at hj
  obtain ⟨hs, hlen, _, hat⟩ := hp
  obtain ⟨b, off, rfl, hb, hc⟩ := hat hnil
  have hH := Lib.hid hc
  have hS := Lib.hid hs
  have hA := Lib.hid hall
  have hB := Lib.hid hbad
  clear hc hs hat hall hbad hnil
  have hcv := fun w s => run_bytes_of_string (P := Try.prog) w 9 22 5 s Try.underlying9 Try.underlying22 Try.underlying5
  go_enter Try.func16, Try.ntmps16
  go_wp2_with fail
  go_loopw [4, 5] (fun x i wr => ∃ k d : Nat, k ≤ j ∧ d < 2305843009213693951 ∧ i = .int .i64 k ∧ x = .int .i64 d ∧ Below (w.heap.size + 1) (w.alloc (.cells #[.int .i64 0, .int .i64 0] 25 (0, 0))) wr) (fun _ i _ => l.length - (intOf i).toNat)
  case atStart => exact ⟨0, 2, Nat.zero_le _, by omega, rfl, rfl, Below.refl _ _⟩
  case round =>
    obtain ⟨k, d, hk, hd, rfl, rfl, hbel⟩ := hrel
    obtain ⟨c0, c1, f0, f1, hz⟩ := kept2 rfl hbel
    have hlt : k < l.length := by omega
    obtain ⟨x, hx⟩ : ∃ x, x = l[k] := ⟨_, rfl⟩
    have h1 : wr.cell? ⟨b, off + k, none⟩ = some (.string x) := by
      rw [hbel.cell (p := ⟨b, off + k, none⟩) (by simp; omega), World.cell?_alloc_lt _ _ _ hb, hH.out k hlt, hx]; simp [List.getD_eq_getElem?_getD, hlt]
    by_cases hkj : k < j
    · have h2 : x.size ≤ 4096 := by rw [hx]; exact hA.out k hkj
      have h2' : decide ((4096 : Int) < (x.size : Int)) = false := by rw [decide_eq_false_iff_not]; omega
      have h5 := Dig.dof_lt (bl x)
      have h6 : Hid (Dig.pr d (Dig.dof (bl x)) < 2305843009213693951) := Lib.hid (Dig.pr_lt _ _)
      clear hx
      go_wp2_with (rw [hcv])
      refine (refOf_any _ (bl x) _ _ _ (bl_length x).symm (bts_drew (bts_new _ _ x _ _ _ rfl (by omega)) 1)).mono ?_
      rintro e w1 ⟨rfl, n1, rfl⟩
      go_wp2_with fail
      refine (refPair_any d (Dig.dof (bl x)) hd h5 _).mono ?_
      rintro e w' ⟨rfl, rfl⟩
      go_wp2_with fail
      go_roundw
      case rel =>
        refine ⟨k + 1, _, by omega, h6.out, by go_num, rfl, ?_⟩
        (repeat' (first | (with_reducible exact Below.refl _ _) | (with_reducible assumption) | (with_reducible refine below_drewN ?_ _) | (with_reducible refine Below.setCell ?_ ?_ _) | (with_reducible refine Below.alloc ?_ ?_ _) | (with_reducible refine Below.drew ?_) | go_size))
      case measure => simp [intOf]; omega
    · obtain rfl : k = j := by omega
      have h2 : 4096 < x.size := by rw [hx]; exact hB.out
      have h2' : decide ((4096 : Int) < (x.size : Int)) = true := by rw [decide_eq_true_iff]; omega
      have h7 : x.size ≤ 140737488351232 := by rw [hx]; exact hS.out _ (List.getElem_mem _)
      clear hx
      go_wp2_with fail
      refine (at_any _ _ _).mono ?_
      rintro e w1 ⟨rfl, hb1⟩
      have hb3 := hbel.trans (hb1.mono (by omega))
      obtain ⟨c0', c1', f0', f1', hz'⟩ := kept2 rfl hb3
      clear c0 c1 f0 f1
      go_wp2_with fail
      obtain ⟨d0, d1, d2⟩ := set2 c0' c1' (.int .i64 2) (.int .i64 k)
      refine bodyPost_ret (v := .tuple #[.int .i64 0, .agg #[.int .i64 2, .int .i64 k]]) (by simp [results, Try.results16, go_sem, d0, d2]) rfl ?_
      refine ⟨rfl, ?_⟩
      have hb4 : Below w.heap.size w w1 := ((Below.refl _ _).alloc (Nat.le_refl _) _).trans (hb3.mono (by omega))
      (repeat' (first | (with_reducible exact Below.refl _ _) | (with_reducible assumption) | (with_reducible refine below_drewN ?_ _) | (with_reducible refine Below.setCell ?_ ?_ _) | (with_reducible refine Below.alloc ?_ ?_ _) | (with_reducible refine Below.drew ?_) | go_size))

theorem refStrings_any (p : Option Addr) (l : List ByteArray) (n cap : Nat) (w : World) (hn : n = l.length) (hp : Sts w p l) :
    Calls Try.prog 16 #[.slice p n cap] w (BPost (.tuple #[.int .i64 (stV l), .agg #[.int .i64 (stC l), .int .i64 (stI l)]]) w) := by
  subst hn
  unfold stV stC stI
  by_cases h1 : l.length ≤ 120
  · by_cases h2 : stOk l = true
    · rw [if_pos h2, if_pos h2, if_pos h1, if_pos h2]
      exact refStrings_ok p l cap h1 ((stOk_iff l).1 h2).2 w hp
    · rw [if_neg h2, if_neg h2, if_pos h1, if_neg h2]
      have hex : ∃ x ∈ l, (fun s : ByteArray => decide (4096 < s.size)) x = true := by
        apply Classical.byContradiction
        intro hno
        apply h2
        rw [stOk_iff]
        refine ⟨h1, fun s hs => ?_⟩
        apply Classical.byContradiction
        intro hlt
        exact hno ⟨s, hs, by simp; omega⟩
      have hlt := List.findIdx_lt_length_of_exists hex
      have hbad := List.findIdx_getElem (xs := l) (p := fun s : ByteArray => decide (4096 < s.size)) (w := hlt)
      refine refStrings_bad p l cap _ h1 hlt (by simpa using hbad) (fun i hi => ?_) w hp
      have := List.not_of_lt_findIdx hi
      simpa using this
  · have h2 : ¬ stOk l = true := by rw [stOk_iff]; omega
    rw [if_neg h2, if_neg h2, if_neg h1]
    exact refStrings_long p l.length cap (by omega) hp.len w
end Go.Proofs.Ytholdclfckkidaa
