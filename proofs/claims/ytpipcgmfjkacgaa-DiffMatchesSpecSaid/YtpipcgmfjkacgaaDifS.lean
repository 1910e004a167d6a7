/-
  The reference's suffixes, walked.
-/
import Derived.Test.YtpipcgmfjkacgaaDifT
namespace Go.Proofs.Ytpipcgmfjkacgaa
open Go.RowKit

set_option maxRecDepth 100000 in
set_option maxHeartbeats 4000000 in
theorem suffixes_any (p q : Option Addr) (a b : List ByteArray) (n m cap cap' : Nat) (w : World) (hn : n = a.length) (hm : m = b.length) (hp : Sts w p a) (hq : Sts w q b) (ha : a.length ≤ 1000000) (hb : b.length ≤ 1000000) :
    Calls Try.prog 29 #[.slice p n cap, .slice q m cap'] w (TabPost a b w) := by
  subst hn hm
  have HP := Lib.hid hp
  have HQ := Lib.hid hq
  clear hp hq
  have m1 := fun w => mk_rows (b.length + 1) (by omega) w
  have m2 := fun w => mk_ints (a.length + 1) (by omega) w
  have c1 : ((b.length + 1 : Nat) : Int) = (b.length : Int) + 1 := by omega
  have c2 : ((a.length + 1 : Nat) : Int) = (a.length : Int) + 1 := by omega
  rw [c1] at m1
  rw [c2] at m2
  clear c1 c2
  have T0 := Lib.hid (Tc.new w a b 44 (fun _ => 0))
  have U0 := Lib.hid ((Below.refl w.heap.size w).alloc (Nat.le_refl _) (.cells (zr (.slice none 0 0) (b.length + 1)) 44 (0, 0)))
  go_enter Try.func29, Try.ntmps29
  go_wp2
  go_loopw [6] (fun i wr => ∃ (J : Nat) (r : Nat → Nat), J ≤ b.length + 1 ∧ i = .int .i64 ((J : Int) - 1) ∧ Hid (Tc wr w.heap.size a b J 0 r) ∧ Hid (Below w.heap.size w wr)) (fun i _ => (intOf i + 1).toNat)
  case atStart => exact ⟨b.length + 1, _, Nat.le_refl _, by go_num, T0, U0⟩
  case round =>
    obtain ⟨J, r, hJ, rfl, HT, HU⟩ := hrel
    by_cases h0 : J = 0
    · subst h0
      have g0 : decide ((0 : Int) ≤ ((0 : Nat) : Int) - 1) = false := by decide
      go_wp2_with fail
      go_returns
      exact ⟨_, rfl, Tab.of HT.out, Nat.le_refl _, HU.out⟩
    · obtain ⟨j, rfl⟩ : ∃ j, J = j + 1 := ⟨J - 1, by omega⟩
      have e1 : (((j + 1 : Nat) : Int) - 1) = (j : Int) := by omega
      rw [e1]
      clear h0
      have hj : j ≤ b.length := by omega
      have g0 : decide ((0 : Int) ≤ (j : Int)) = true := by rw [decide_eq_true_iff]; omega
      have b0 : (0 : Int) ≤ (j : Int) := by omega
      have b1 : (j : Int) < (b.length : Int) + 1 := by omega
      have b2 : j < b.length + 1 := by omega
      have lo := HT.out.low j (by omega) hj
      have fz := HT.out.gfrz j hj
      have lt := HT.out.lt
      have s1 : (wr.alloc (.cells (zr (.int .i64 0) (a.length + 1)) 3 (0, 0))).cell? ⟨w.heap.size, j, none⟩ = some (.slice none 0 0) := by
        rw [← lo]; exact ((Below.refl wr.heap.size wr).alloc (Nat.le_refl _) _).cell (p := ⟨w.heap.size, j, none⟩) lt
      have s2 : (wr.alloc (.cells (zr (.int .i64 0) (a.length + 1)) 3 (0, 0))).frozen? ⟨w.heap.size, j, none⟩ = false := by
        rw [← fz]; exact ((Below.refl wr.heap.size wr).alloc (Nat.le_refl _) _).frozen (p := ⟨w.heap.size, j, none⟩) lt
      have T1 := Lib.hid (HT.out.col hj 3)
      have U1 := Lib.hid ((HU.out.alloc HU.out.size (.cells (zr (.int .i64 0) (a.length + 1)) 3 (0, 0))).setCell (p := ⟨w.heap.size, j, none⟩) (Nat.le_refl w.heap.size) (.slice (some ⟨wr.heap.size, 0, none⟩) (a.length + 1) (a.length + 1)))
      clear lo fz lt
      by_cases hjb : j = b.length
      · have g1 : ((j : Int) == (b.length : Int)) = true := by rw [beq_iff_eq]; omega
        have T2 := Lib.hid (T1.out.last' hjb)
        have HJ := Lib.hid hjb
        clear hjb e1
        go_wp2_with fail
        go_roundw
        case rel => exact ⟨j, _, by omega, by go_num, T2, U1⟩
        case measure => first | (simp [intOf]; done) | (simp [intOf]; omega)
      · have g1 : ((j : Int) == (b.length : Int)) = false := by rw [beq_eq_false_iff_ne]; omega
        have hjl : j < b.length := by omega
        go_wp2_with fail
        obtain ⟨r', hr'⟩ : ∃ r', r' = fun k => if k = j then wr.heap.size else r k := ⟨_, rfl⟩
        rw [← hr'] at T1
        clear hr' m1 m2 s1 s2 HT HU g0
        go_loopw [7] (fun i w1 => ∃ I : Nat, I ≤ a.length ∧ i = .int .i64 ((I : Int) - 1) ∧ Hid (Tc w1 w.heap.size a b j I r') ∧ Hid (Below w.heap.size w w1)) (fun i _ => (intOf i + 1).toNat)
        case atStart => exact ⟨a.length, Nat.le_refl _, by go_num, T1, U1⟩
        case round =>
          obtain ⟨I, hI, rfl, HT, HU⟩ := hrel
          clear T1 U1
          by_cases h0 : I = 0
          · subst h0
            have g0 : decide ((0 : Int) ≤ ((0 : Nat) : Int) - 1) = false := by decide
            clear e1 g1
            go_wp2_with fail
            go_roundw
            case rel => exact ⟨j, _, by omega, by go_num, HT, HU⟩
            case measure => first | (simp [intOf]; done) | (simp [intOf]; omega)
          · obtain ⟨i, rfl⟩ : ∃ i, I = i + 1 := ⟨I - 1, by omega⟩
            have e1 : (((i + 1 : Nat) : Int) - 1) = (i : Int) := by omega
            rw [e1]
            clear h0
            have hi : i < a.length := by omega
            have g0 : decide ((0 : Int) ≤ (i : Int)) = true := by rw [decide_eq_true_iff]; omega
            obtain ⟨k1, -⟩ := HT.out.far j (Nat.le_refl _) hj
            have a0 := HT.out.cols (j + 1) (by omega) (by omega)
            have a1 := HT.out.cols j (by omega) (by omega)
            have a2 := HT.out.vals (j + 1) i (by omega) (by omega) (by omega) (by omega)
            have a3 := HT.out.vals (j + 1) (i + 1) (by omega) (by omega) (by omega) (by omega)
            have a4 := HT.out.vals j (i + 1) (by omega) (by omega) (by omega) (by omega)
            have a5 := HT.out.zero hj i (by omega)
            have a6 := HT.out.frz hj i (by omega)
            have S := fun (nq v : Nat) (hv : v = tv a b i j) => (Lib.hid (by rw [hv]; exact (HT.out.drewN nq).step hj hi) : Hid (Tc ((wr.drewN nq).setCell ⟨r' j, i, none⟩ (.int .i64 (v : Nat))) w.heap.size a b j i r'))
            have E := Lib.hid (tv_at a b i j hi hjl)
            obtain ⟨p1, hp1⟩ : ∃ p1, p1 = tv a b i (j + 1) := ⟨_, rfl⟩
            obtain ⟨p2, hp2⟩ : ∃ p2, p2 = tv a b (i + 1) j := ⟨_, rfl⟩
            obtain ⟨p3, hp3⟩ : ∃ p3, p3 = tv a b (i + 1) (j + 1) := ⟨_, rfl⟩
            have l1 : p1 ≤ 1000000 := by have := tv_le a b i (j + 1); omega
            have l2 : p2 ≤ 1000000 := by have := tv_le a b (i + 1) j; omega
            have l3 : p3 ≤ 1000000 := by have := tv_le a b (i + 1) (j + 1); omega
            rw [← hp1] at a2 E
            rw [← hp2] at a4 E
            rw [← hp3] at a3 E
            have b3 : (0 : Int) ≤ (i : Int) := by omega
            have b4 : (i : Int) < (a.length : Int) := by omega
            have b5 : (j : Int) < (b.length : Int) := by omega
            clear hp1 hp2 hp3
            obtain ⟨bp, op, rfl, hbp, cx⟩ := HP.out.cell hi
            obtain ⟨bq, oq, rfl, hbq, cy⟩ := HQ.out.cell hjl
            have h1 : wr.cell? ⟨bp, op + i, none⟩ = some (.string a[i]) := by rw [HU.out.cell (p := ⟨bp, op + i, none⟩) hbp, cx]
            have h2 : wr.cell? ⟨bq, oq + j, none⟩ = some (.string b[j]) := by rw [HU.out.cell (p := ⟨bq, oq + j, none⟩) hbq, cy]
            obtain ⟨x, hx⟩ : ∃ x, x = a[i] := ⟨_, rfl⟩
            obtain ⟨y, hy⟩ : ∃ y, y = b[j] := ⟨_, rfl⟩
            rw [← hx] at h1 E
            rw [← hy] at h2 E
            have U3 := fun (nq v : Nat) => (Lib.hid ((below_drewN HU.out nq).setCell (p := ⟨r' j, i, none⟩) (Nat.le_of_lt k1) (.int .i64 (v : Nat))) : Hid (Below w.heap.size w ((wr.drewN nq).setCell ⟨r' j, i, none⟩ (.int .i64 (v : Nat)))))
            clear cx cy hx hy hbp hbq HT HU k1
            by_cases hq : p1 < p2
            · have g2 : decide (p1 < p2) = true := by simpa using hq
              have E1 : Hid (max p1 p2 = p2) := Lib.hid (by omega)
              rw [E1.out] at E
              clear hq E1
              go_wp2_with fail
              by_cases he : x = y
              · subst he
                rw [if_pos rfl] at E
                by_cases h3 : p2 < p3 + 1
                · have g3 : decide ((p2 : Int) < (p3 : Int) + 1) = true := by rw [decide_eq_true_iff]; omega
                  have E3 : Hid (p3 + 1 = tv a b i j) := Lib.hid (by rw [E.out]; omega)
                  clear h3
                  go_quiet (fail)
                  go_wp2_with fail
                  go_roundw
                  case rel => exact ⟨i, by omega, by go_num, S _ (p3 + 1) E3.out, U3 _ (p3 + 1)⟩
                  case measure => first | (simp [intOf]; done) | (simp [intOf]; omega)
                · have g3 : decide ((p2 : Int) < (p3 : Int) + 1) = false := by rw [decide_eq_false_iff_not]; omega
                  have E3 : Hid (p2 = tv a b i j) := Lib.hid (by rw [E.out]; omega)
                  clear h3
                  go_quiet (fail)
                  go_wp2_with fail
                  go_roundw
                  case rel => exact ⟨i, by omega, by go_num, S _ _ E3.out, U3 _ _⟩
                  case measure => first | (simp [intOf]; done) | (simp [intOf]; omega)
              · have e1 := tl_false he
                rw [if_neg he] at E
                have E3 : Hid (p2 = tv a b i j) := Lib.hid (by rw [E.out]; omega)
                clear he
                go_quiet (fail)
                go_wp2_with fail
                go_roundw
                case rel => exact ⟨i, by omega, by go_num, S _ _ E3.out, U3 _ _⟩
                case measure => first | (simp [intOf]; done) | (simp [intOf]; omega)
            · have g2 : decide (p1 < p2) = false := by simpa using hq
              have E1 : Hid (max p1 p2 = p1) := Lib.hid (by omega)
              rw [E1.out] at E
              clear hq E1
              go_wp2_with fail
              by_cases he : x = y
              · subst he
                rw [if_pos rfl] at E
                by_cases h3 : p1 < p3 + 1
                · have g3 : decide ((p1 : Int) < (p3 : Int) + 1) = true := by rw [decide_eq_true_iff]; omega
                  have E3 : Hid (p3 + 1 = tv a b i j) := Lib.hid (by rw [E.out]; omega)
                  clear h3
                  go_quiet (fail)
                  go_wp2_with fail
                  go_roundw
                  case rel => exact ⟨i, by omega, by go_num, S _ (p3 + 1) E3.out, U3 _ (p3 + 1)⟩
                  case measure => first | (simp [intOf]; done) | (simp [intOf]; omega)
                · have g3 : decide ((p1 : Int) < (p3 : Int) + 1) = false := by rw [decide_eq_false_iff_not]; omega
                  have E3 : Hid (p1 = tv a b i j) := Lib.hid (by rw [E.out]; omega)
                  clear h3
                  go_quiet (fail)
                  go_wp2_with fail
                  go_roundw
                  case rel => exact ⟨i, by omega, by go_num, S _ _ E3.out, U3 _ _⟩
                  case measure => first | (simp [intOf]; done) | (simp [intOf]; omega)
              · have e1 := tl_false he
                rw [if_neg he] at E
                have E3 : Hid (p1 = tv a b i j) := Lib.hid (by rw [E.out]; omega)
                clear he
                go_quiet (fail)
                go_wp2_with fail
                go_roundw
                case rel => exact ⟨i, by omega, by go_num, S _ _ E3.out, U3 _ _⟩
                case measure => first | (simp [intOf]; done) | (simp [intOf]; omega)
end Go.Proofs.Ytpipcgmfjkacgaa
