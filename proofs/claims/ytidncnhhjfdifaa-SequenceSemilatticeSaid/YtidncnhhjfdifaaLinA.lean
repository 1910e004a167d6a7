
/-
  Comparison of lists of strings; faults of lists of lines, the program's and the reference's, walked.
  Faults of lists of lines: lines.Validate and the reference's LinesFault, LinesCode, TwoFault, walked.
  Package lines: commonPrefix, commonSuffix, walked.
-/
import Derived.Test.YtidncnhhjfdifaaMem
import Derived.Test.YtidncnhhjfdifaaLinM
import Derived.Test.YtidncnhhjfdifaaShelf
import Derived.LoopTactic
import Derived.Deep.QuietTactic
import Derived.BigQuiet
import Derived.Deep.RegionHeld3
import Derived.WalkSmall
import Derived.Lib.Hide
import Derived.Outline
import Derived.Lib.Bytealg
import Derived.IntWalk
namespace Go.Proofs.Ytidncnhhjfdifaa
open Go.RowKit
set_option maxRecDepth 4000


theorem getD_of {l : List ByteArray} {i : Nat} (h : i < l.length) : l.getD i ByteArray.empty = l[i] := by
  rw [List.getD_eq_getElem?_getD, List.getElem?_eq_getElem h]; rfl
/-- the cell of string i -/
theorem Sts.cell {w : World} {p : Option Addr} {l : List ByteArray} (h : Sts w p l) {i : Nat} (hi : i < l.length) : ∃ b off, p = some ⟨b, off, none⟩ ∧ b < w.heap.size ∧ w.cell? ⟨b, off + i, none⟩ = some (.string l[i]) := by
  obtain ⟨b, off, rfl, hb, hc⟩ := h.at' (by intro e; subst e; simp at hi)
  exact ⟨b, off, rfl, hb, by rw [hc i hi, getD_of hi]⟩

set_option maxHeartbeats 400000 in
theorem at_any (c i : Int) (w : World) : Calls Try.prog 38 #[.int .i64 c, .int .i64 i] w (BPost (.agg #[.int .i64 c, .int .i64 i]) w) := by
  go_enter Try.func38, Try.ntmps38
  go_wp2
  go_returns
  refine ⟨rfl, ?_⟩; (repeat' (first | (with_reducible exact Below.refl _ _) | (with_reducible assumption) | (with_reducible refine below_drewN ?_ _) | (with_reducible refine Below.setCell ?_ ?_ _) | (with_reducible refine Below.alloc ?_ ?_ _) | (with_reducible refine Below.drew ?_) | go_size))

theorem eq_take {l m : List ByteArray} {k : Nat} (h : l.take k = m.take k) (hk : l.length ≤ k) (hl : l.length = m.length) : l = m := by
  rw [List.take_of_length_le hk, List.take_of_length_le (by omega)] at h; exact h
theorem take_next {l m : List ByteArray} {k : Nat} (h : l.take k = m.take k) (h1 : k < l.length) (h2 : k < m.length) (he : l[k] = m[k]) : l.take (k + 1) = m.take (k + 1) := by
  rw [List.take_succ_eq_append_getElem h1, List.take_succ_eq_append_getElem h2, h, he]
def eqS (l m : List ByteArray) : Bool := decide (l = m)
theorem eqS_true {l m : List ByteArray} (h : l = m) : eqS l m = true := decide_eq_true h
theorem eqS_false {l m : List ByteArray} (h : l ≠ m) : eqS l m = false := decide_eq_false h

theorem tl_inj {x y : ByteArray} (h : x.toList = y.toList) : x = y := by
  rw [ByteArray.toList_eq, ByteArray.toList_eq] at h
  cases x; cases y; simp at h; rw [h]
theorem tl_false {x y : ByteArray} (h : x ≠ y) : (x.toList == y.toList) = false := by
  rw [beq_eq_false_iff_ne]; exact fun e => h (tl_inj e)
theorem tl_true {x y : ByteArray} (h : x = y) : (x.toList == y.toList) = true := by subst h; exact beq_self_eq_true _

set_option maxHeartbeats 1000000 in
theorem equal_any (p q : Option Addr) (l m : List ByteArray) (n k cap cap' : Nat) (w : World) (hn : n = l.length) (hk : k = m.length) (hp : Sts w p l) (hq : Sts w q m) :
    Calls Try.prog 30 #[.slice p n cap, .slice q k cap'] w (QPost (.bool (eqS l m)) w) := by
  subst hn hk
  have hl1 := hp.len
  have hl2 := hq.len
  by_cases hlen : l.length = m.length
  · have g0 : ((l.length : Int) != (m.length : Int)) = false := by simp [hlen]
    have g0' : (l.length != m.length) = false := by simp [hlen]
    have HL := Lib.hid hlen
    have HP := Lib.hid hp
    have HQ := Lib.hid hq
    clear hlen hp hq
    go_enter Try.func30, Try.ntmps30
    go_wp2
    go_loopw [5] (fun i wr => ∃ k n : Nat, k ≤ l.length ∧ i = .int .i64 k ∧ wr = w.drewN n ∧ Hid (l.take k = m.take k)) (fun i _ => l.length - (intOf i).toNat)
    case atStart => exact ⟨0, 0, Nat.zero_le _, rfl, rfl, Lib.hid rfl⟩
    case round =>
      obtain ⟨k, n, hk, rfl, hw, ht⟩ := hrel
      have HW := Lib.hid hw
      clear hw
      by_cases hlt : k < l.length
      · have hlt2 : k < m.length := by have := HL.out; omega
        obtain ⟨b, off, rfl, hb, hc⟩ := HP.out.cell hlt
        obtain ⟨b', off', rfl, hb', hc'⟩ := HQ.out.cell hlt2
        have h1 : wr.cell? ⟨b, off + k, none⟩ = some (.string l[k]) := by rw [HW.out, World.cell?_drewN, hc]
        have h2 : wr.cell? ⟨b', off' + k, none⟩ = some (.string m[k]) := by rw [HW.out, World.cell?_drewN, hc']
        have b7 : (0 : Int) ≤ (k : Int) := by omega
        have b8 : (k : Int) < (l.length : Int) := by omega
        have b9 : (k : Int) < (m.length : Int) := by omega
        have hn := take_next ht.out hlt hlt2
        obtain ⟨x, hx⟩ : ∃ x, x = l[k] := ⟨_, rfl⟩
        obtain ⟨y, hy⟩ : ∃ y, y = m[k] := ⟨_, rfl⟩
        rw [← hx] at h1 hn
        rw [← hy] at h2 hn
        by_cases he : x = y
        · have HN := Lib.hid (hn he)
          subst he
          clear hc hc' hx hy hn
          go_wp2_with fail
          go_quiet (fail)
          go_wp2_with fail
          go_roundw
          case rel => exact ⟨k + 1, _, by omega, by go_num, by rw [HW.out, World.drewN_drewN], HN⟩
          case measure => simp [intOf]; omega
        · have hne : eqS l m = false := eqS_false (fun e => he (by rw [hx, hy]; congr 1))
          have e1 := tl_false he
          have HE := Lib.hid hne
          clear hc hc' hx hy hn hne he
          go_wp2_with fail
          go_quiet (fail)
          go_wp2_with fail
          go_ret
          exact ⟨by rw [HE.out]; rfl, _, by rw [HW.out, World.drewN_drewN]⟩
      · have hk' : Hid (eqS l m = true) := Lib.hid (eqS_true (eq_take ht.out (by omega) HL.out))
        go_wp2_with fail
        go_ret
        exact ⟨by rw [hk'.out]; rfl, n, HW.out⟩
  · have g0 : ((l.length : Int) != (m.length : Int)) = true := by simp; omega
    have g0' : (l.length != m.length) = true := by simp [hlen]
    have hne : Hid (eqS l m = false) := Lib.hid (eqS_false (fun e => hlen (by rw [e])))
    have HL := Lib.hid hlen
    clear hlen
    go_enter Try.func30, Try.ntmps30
    go_wp2
    go_ret
    exact ⟨by rw [hne.out]; rfl, 0, rfl⟩
end Go.Proofs.Ytidncnhhjfdifaa
namespace Go.Proofs.Ytidncnhhjfdifaa
open Go.RowKit

theorem idx_mem (l : List UInt8) (c : UInt8) : decide (0 ≤ Lib.indexByte l c) = l.contains c := by
  induction l with
  | nil => rfl
  | cons b r ih =>
    have hg := Lib.indexByte_ge r c
    unfold Lib.indexByte
    by_cases h : b = c
    · subst h; simp
    · have h' : (b == c) = false := by simpa using h
      have h'' : (c == b) = false := by simpa using fun e : c = b => h e.symm
      rw [h', if_neg (by simp), List.contains_cons, h'', Bool.false_or, ← ih]
      by_cases h2 : Lib.indexByte r c = -1
      · simp [h2]
      · rw [if_neg (by simpa using h2), Bool.eq_iff_iff, decide_eq_true_iff, decide_eq_true_iff]; omega
theorem contains_any (s : ByteArray) (w : World) : Calls Try.prog 62 #[.string s, .string ⟨#[10]⟩] w fun e w' => e = .returned (.bool (Lin.hasNl s)) ∧ w = w' :=
  (Try.strings_Contains_one s 10 w).mono fun _ _ h => ⟨by rw [h.1, idx_mem]; rfl, h.2.symm⟩

set_option maxHeartbeats 1000000 in
theorem validate_any (p : Option Addr) (l : List ByteArray) (n cap : Nat) (w : World) (hn : n = l.length) (hp : Sts w p l) :
    Calls Try.prog 35 #[.slice p n cap] w (BPost (.agg #[.int .i64 (Lin.vC l), .int .i64 (Lin.vI l)]) w) := by
  subst hn
  have hl := hp.len
  by_cases h1 : 120 < l.length
  · rw [show Lin.vC l = 2 from if_pos h1, show Lin.vI l = -1 from if_pos h1]
    have g0 : decide ((120 : Int) < (l.length : Int)) = true := by rw [decide_eq_true_iff]; omega
    have HP := Lib.hid hp
    clear hp
    go_enter Try.func35, Try.ntmps35
    go_wp2
    go_returns
    refine ⟨rfl, ?_⟩; (repeat' (first | (with_reducible exact Below.refl _ _) | (with_reducible assumption) | (with_reducible refine below_drewN ?_ _) | (with_reducible refine Below.setCell ?_ ?_ _) | (with_reducible refine Below.alloc ?_ ?_ _) | (with_reducible refine Below.drew ?_) | go_size))
  · rw [show Lin.vC l = (Lin.fb l 0).1 from if_neg h1, show Lin.vI l = (Lin.fb l 0).2 from if_neg h1]
    have g0 : decide ((120 : Int) < (l.length : Int)) = false := by rw [decide_eq_false_iff_not]; omega
    have HP := Lib.hid hp
    clear hp
    go_enter Try.func35, Try.ntmps35
    go_wp2
    go_loop [11] (fun i => ∃ k : Nat, k ≤ l.length ∧ i = .int .i64 k ∧ Hid (Lin.fb (l.drop k) k = Lin.fb l 0)) (fun i => l.length - (intOf i).toNat)
    case atStart => exact ⟨0, Nat.zero_le _, rfl, Lib.hid rfl⟩
    case round =>
      obtain ⟨k, hk, rfl, ht⟩ := hrel
      by_cases hlt : k < l.length
      · obtain ⟨b, off, rfl, hb, hc⟩ := HP.out.cell hlt
        have hs := HP.out.small _ (List.getElem_mem hlt)
        have hf := Lib.hid (Lin.fb_drop l k hlt)
        obtain ⟨x, hx⟩ : ∃ x, x = l[k] := ⟨_, rfl⟩
        rw [← hx] at hc hf hs
        clear hx
        by_cases h80 : 80 < x.size
        · have g1 : decide ((80 : Int) < (x.size : Int)) = true := by rw [decide_eq_true_iff]; omega
          have hr : Hid (Lin.fb l 0 = (2, (k : Int))) := Lib.hid (by rw [← ht.out, hf.out, Lin.lc_long x h80, if_neg (by decide)])
          clear h80
          go_wp2_with fail
          go_returns
          rw [hr.out]
          refine ⟨rfl, ?_⟩; (repeat' (first | (with_reducible exact Below.refl _ _) | (with_reducible assumption) | (with_reducible refine below_drewN ?_ _) | (with_reducible refine Below.setCell ?_ ?_ _) | (with_reducible refine Below.alloc ?_ ?_ _) | (with_reducible refine Below.drew ?_) | go_size))
        · have g1 : decide ((80 : Int) < (x.size : Int)) = false := by rw [decide_eq_false_iff_not]; omega
          by_cases hnl : Lin.hasNl x = true
          · have hr : Hid (Lin.fb l 0 = (5, (k : Int))) := Lib.hid (by rw [← ht.out, hf.out, Lin.lc_nl x h80 hnl, if_neg (by decide)])
            clear h80
            go_wp2_with fail
            refine (contains_any x _).mono ?_
            rintro e w' ⟨rfl, rfl⟩
            go_wp2_with fail
            go_returns
            rw [hr.out]
            refine ⟨rfl, ?_⟩; (repeat' (first | (with_reducible exact Below.refl _ _) | (with_reducible assumption) | (with_reducible refine below_drewN ?_ _) | (with_reducible refine Below.setCell ?_ ?_ _) | (with_reducible refine Below.alloc ?_ ?_ _) | (with_reducible refine Below.drew ?_) | go_size))
          · have g2 : Lin.hasNl x = false := by simpa using hnl
            have hr : Hid (Lin.fb (l.drop (k + 1)) (k + 1) = Lin.fb l 0) := Lib.hid (by rw [← ht.out, hf.out, if_pos (Lin.lc_ok x h80 g2)])
            clear h80 hnl
            go_wp2_with fail
            refine (contains_any x _).mono ?_
            rintro e w' ⟨rfl, rfl⟩
            go_wp2_with fail
            go_round
            case rel => exact ⟨k + 1, by omega, by go_num, hr⟩
            case measure => simp [intOf]; omega
      · have hr : Hid (Lin.fb l 0 = (0, 0)) := Lib.hid (by rw [← ht.out, Lin.fb_end l k (by omega)])
        go_wp2_with fail
        go_returns
        rw [hr.out]
        refine ⟨rfl, ?_⟩; (repeat' (first | (with_reducible exact Below.refl _ _) | (with_reducible assumption) | (with_reducible refine below_drewN ?_ _) | (with_reducible refine Below.setCell ?_ ?_ _) | (with_reducible refine Below.alloc ?_ ?_ _) | (with_reducible refine Below.drew ?_) | go_size))

/-- the place of the first newline -/
theorem idx_none {l : List UInt8} {c : UInt8} (h : Lib.indexByte l c < 0) : c ∉ l := by
  have := idx_mem l c
  rw [decide_eq_false (by omega)] at this
  simpa using this.symm
theorem idx_some {l : List UInt8} {c : UInt8} (h : 0 ≤ Lib.indexByte l c) : ∃ i : Nat, Lib.indexByte l c = i ∧ i < l.length ∧ l = l.take i ++ c :: l.drop (i + 1) ∧ c ∉ l.take i := by
  induction l with
  | nil => simp [Lib.indexByte] at h
  | cons b r ih =>
    unfold Lib.indexByte at h ⊢
    by_cases e : b = c
    · subst e; exact ⟨0, by simp, by simp, by simp, by simp⟩
    · have h' : (b == c) = false := by simpa using e
      rw [h', if_neg (by simp)] at h ⊢
      by_cases h2 : Lib.indexByte r c = -1
      · rw [h2] at h; simp at h
      · have hg := Lib.indexByte_ge r c
        obtain ⟨i, h3, h4, h5, h6⟩ := ih (by omega)
        rw [if_neg (by simpa using h2)]
        refine ⟨i + 1, by rw [h3]; rfl, by simp; omega, ?_, ?_⟩
        · simp only [List.take_succ_cons, List.drop_succ_cons, List.cons_append]; rw [← h5]
        · simp only [List.take_succ_cons, List.mem_cons, not_or]; exact ⟨fun e' => e e'.symm, h6⟩

theorem nl_at {x : ByteArray} {j : Nat} (h : j < x.size) (e : x[j] = 10) : Lin.hasNl x = true := by
  rw [Lin.hasNl_iff, ← e]
  show x.data[j] ∈ _
  simp
theorem nl_next {x : ByteArray} {j : Nat} (h : j < x.size) (hn : (10 : UInt8) ∉ x.data.toList.take j) (e : ¬ x[j] = 10) : (10 : UInt8) ∉ x.data.toList.take (j + 1) := by
  rw [List.take_succ_eq_append_getElem (by simpa using h)]
  simp only [List.mem_append, List.mem_singleton, not_or]
  refine ⟨hn, fun e' => e ?_⟩
  rw [e']; rfl
theorem nl_none {x : ByteArray} {j : Nat} (hn : (10 : UInt8) ∉ x.data.toList.take j) (h : x.size ≤ j) : Lin.hasNl x = false := by
  rw [List.take_of_length_le (by simpa using h)] at hn
  cases hh : Lin.hasNl x with
  | false => rfl
  | true => exact (hn ((Lin.hasNl_iff x).1 hh)).elim

set_option maxHeartbeats 2000000 in
theorem linesFault_any (p : Option Addr) (l : List ByteArray) (n cap : Nat) (w : World) (hn : n = l.length) (hp : Sts w p l) :
    Calls Try.prog 117 #[.slice p n cap] w (BPost (.agg #[.int .i64 (Lin.vC l), .int .i64 (Lin.vI l)]) w) := by
  subst hn
  have hl := hp.len
  by_cases h1 : 120 < l.length
  · rw [show Lin.vC l = 2 from if_pos h1, show Lin.vI l = -1 from if_pos h1]
    have g0 : decide ((120 : Int) < (l.length : Int)) = true := by rw [decide_eq_true_iff]; omega
    have HP := Lib.hid hp
    clear hp
    go_enter Try.func117, Try.ntmps117
    go_wp2_with fail
    refine (at_any _ _ _).mono ?_
    rintro e w1 ⟨rfl, hb1⟩
    obtain ⟨c0, c1, f0, f1, hz1⟩ := (Flt.new w 0 0 24).up hb1
    obtain ⟨d0, d1, -, -, -⟩ := (⟨c0, c1, f0, f1, hz1⟩ : Flt w1 w.heap.size 0 0).set2 2 (-1)
    go_wp2_with fail
    refine bodyPost_ret (v := .agg #[.int .i64 2, .int .i64 (-1)]) (by simp [results, Try.results117, go_sem, d0, d1]) rfl ⟨rfl, ?_⟩
    exact (((up_alloc (Below.refl _ _) _).trans (hb1.mono (by simp))).setCell (by simp) _).setCell (by simp) _
  · rw [show Lin.vC l = (Lin.fb l 0).1 from if_neg h1, show Lin.vI l = (Lin.fb l 0).2 from if_neg h1]
    have g0 : decide ((120 : Int) < (l.length : Int)) = false := by rw [decide_eq_false_iff_not]; omega
    have HP := Lib.hid hp
    clear hp
    go_enter Try.func117, Try.ntmps117
    go_wp2
    go_loop [3] (fun i => ∃ k : Nat, k ≤ l.length ∧ i = .int .i64 k ∧ Hid (Lin.fb (l.drop k) k = Lin.fb l 0)) (fun i => l.length - (intOf i).toNat)
    case atStart => exact ⟨0, Nat.zero_le _, rfl, Lib.hid rfl⟩
    case round =>
      obtain ⟨k, hk, rfl, ht⟩ := hrel
      by_cases hlt : k < l.length
      · obtain ⟨b, off, rfl, hb, hc⟩ := HP.out.cell hlt
        have hs := HP.out.small _ (List.getElem_mem hlt)
        have hf := Lib.hid (Lin.fb_drop l k hlt)
        obtain ⟨x, hx⟩ : ∃ x, x = l[k] := ⟨_, rfl⟩
        rw [← hx] at hc hf hs
        clear hx
        by_cases h80 : 80 < x.size
        · have g1 : decide ((80 : Int) < (x.size : Int)) = true := by rw [decide_eq_true_iff]; omega
          have hr : Hid (Lin.fb l 0 = (2, (k : Int))) := Lib.hid (by rw [← ht.out, hf.out, Lin.lc_long x h80, if_neg (by decide)])
          clear h80
          go_wp2_with fail
          refine (at_any _ _ _).mono ?_
          rintro e w1 ⟨rfl, hb1⟩
          obtain ⟨c0, c1, f0, f1, hz1⟩ := (Flt.new w 0 0 24).up hb1
          obtain ⟨d0, d1, -, -, -⟩ := (⟨c0, c1, f0, f1, hz1⟩ : Flt w1 w.heap.size 0 0).set2 2 k
          go_wp2_with fail
          refine bodyPost_ret (v := .agg #[.int .i64 2, .int .i64 k]) (by simp [results, Try.results117, go_sem, d0, d1]) rfl ⟨by rw [hr.out], ?_⟩
          exact (((up_alloc (Below.refl _ _) _).trans (hb1.mono (by simp))).setCell (by simp) _).setCell (by simp) _
        · have g1 : decide ((80 : Int) < (x.size : Int)) = false := by rw [decide_eq_false_iff_not]; omega
          go_wp2_with fail
          go_loop [4] (fun i => ∃ j : Nat, j ≤ x.size ∧ i = .int .i64 j ∧ Hid ((10 : UInt8) ∉ x.data.toList.take j)) (fun i => x.size - (intOf i).toNat)
          case atStart => exact ⟨0, Nat.zero_le _, rfl, Lib.hid (by simp)⟩
          case round =>
            obtain ⟨j, hj, rfl, hn⟩ := hrel
            by_cases hlj : j < x.size
            · have b7 : (0 : Int) ≤ (j : Int) := by omega
              have b8 : (j : Int) < (x.size : Int) := by omega
              by_cases h10 : x[j] = 10
              · have hr : Hid (Lin.fb l 0 = (5, (k : Int))) := Lib.hid (by rw [← ht.out, hf.out, Lin.lc_nl x h80 (nl_at hlj h10), if_neg (by decide)])
                have g2 : ((x[j].toNat : Int) == 10) = true := by rw [h10]; rfl
                have H := Lib.hid h10
                clear h80 h10
                go_wp2_with fail
                refine (at_any _ _ _).mono ?_
                rintro e w1 ⟨rfl, hb1⟩
                obtain ⟨c0, c1, f0, f1, hz1⟩ := (Flt.new w 0 0 24).up hb1
                obtain ⟨d0, d1, -, -, -⟩ := (⟨c0, c1, f0, f1, hz1⟩ : Flt w1 w.heap.size 0 0).set2 5 k
                go_wp2_with fail
                refine bodyPost_ret (v := .agg #[.int .i64 5, .int .i64 k]) (by simp [results, Try.results117, go_sem, d0, d1]) rfl ⟨by rw [hr.out], ?_⟩
                exact (((up_alloc (Below.refl _ _) _).trans (hb1.mono (by simp))).setCell (by simp) _).setCell (by simp) _
              · have g2 : ((x[j].toNat : Int) == 10) = false := by
                  rw [beq_eq_false_iff_ne]; intro e; apply h10; apply UInt8.toNat_inj.1; simpa using (Int.ofNat_inj.1 e)
                have hn' : Hid ((10 : UInt8) ∉ x.data.toList.take (j + 1)) := Lib.hid (nl_next hlj hn.out h10)
                have H := Lib.hid h10
                clear h10
                go_wp2_with fail
                go_round
                case rel => exact ⟨j + 1, by omega, by go_num, hn'⟩
                case measure => simp [intOf]; omega
            · have g2 : Lin.hasNl x = false := nl_none hn.out (by omega)
              have hr : Hid (Lin.fb (l.drop (k + 1)) (k + 1) = Lin.fb l 0) := Lib.hid (by rw [← ht.out, hf.out, if_pos (Lin.lc_ok x h80 g2)])
              clear h80
              go_wp2_with fail
              go_round
              case rel => exact ⟨k + 1, by omega, by go_num, hr⟩
              case measure => simp [intOf]; omega
      · have hr : Hid (Lin.fb l 0 = (0, 0)) := Lib.hid (by rw [← ht.out, Lin.fb_end l k (by omega)])
        go_wp2_with fail
        go_returns
        rw [hr.out]
        refine ⟨rfl, ?_⟩; (repeat' (first | (with_reducible exact Below.refl _ _) | (with_reducible assumption) | (with_reducible refine below_drewN ?_ _) | (with_reducible refine Below.setCell ?_ ?_ _) | (with_reducible refine Below.alloc ?_ ?_ _) | (with_reducible refine Below.drew ?_) | go_size))
end Go.Proofs.Ytidncnhhjfdifaa
namespace Go.Proofs.Ytidncnhhjfdifaa
open Go.RowKit

end Go.Proofs.Ytidncnhhjfdifaa
