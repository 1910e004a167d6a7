
/-
  Package sequence: joining two rows of operations, walked.
-/
import Derived.Test.YtidncnhhjfdifaaSqMg
import Derived.Test.YtidncnhhjfdifaaApp
namespace Go.Proofs.Ytidncnhhjfdifaa
open Go.RowKit Go.Sort
set_option maxRecDepth 4000
set_option maxRecDepth 4000
theorem sgrow_zero (w : World) : Calls Try.prog 85 #[.slice none 0 0, .int .i64 0] w (fun e w' => e = .returned (.slice none 0 0) ∧ w' = w) := by
  go_enter Try.func85, Try.ntmps85
  go_wp2_with fail
  go_ret
  exact ⟨rfl, rfl⟩
theorem sgrow_pos (n : Nat) (h0 : 0 < n) (h : n ≤ 1000000) (w : World) : Calls Try.prog 85 #[.slice none 0 0, .int .i64 n] w (fun e w' => ∃ cap, n ≤ cap ∧ e = .returned (.slice (some ⟨w.heap.size, 0, none⟩) 0 cap) ∧ OwnE opE w.heap.size w' (.slice (some ⟨w.heap.size, 0, none⟩) 0 cap) [] ∧ Below w.heap.size w w') := by
  have g0 : decide ((n : Int) < 0) = false := decide_eq_false (by omega)
  have g1 : decide ((0 : Int) < (n : Int)) = true := decide_eq_true (by omega)
  have g2 : IntKind.i64.wrap (n : Int) = n := IntWalk.i64_in _ (by omega)
  have g3 : Builtin.nextslicecap n 0 * Try.t53.bytes ≤ 281474976710656 := growslice_fits h0 (by show n * 56 ≤ _; omega)
  have g4 : ¬ 281474976710656 < Builtin.nextslicecap n 0 * Try.t53.bytes := by omega
  have g5 : (n : Int) * (Try.t53.bytes : Int) ≤ 281474976710656 := by show (n : Int) * 56 ≤ _; omega
  have c1 := grownCap_ge w n 0 53
  have c2 := grownCap_le_maxLen w n 0 53 (by show n ≤ _; unfold maxLen; omega)
  unfold grownCap at c1 c2
  go_enter Try.func85, Try.ntmps85
  go_wp2_with fail
  go_ret
  refine ⟨_, c1, rfl, ⟨rfl, .inr ⟨w.heap.size, _, _, rfl, Nat.le_refl _, heap_alloc_new w _, Nat.zero_le _, c2, ?_, by simp⟩⟩, (up_alloc (Below.refl _ _) _).drew⟩
  simp [Builtin.zeroCells, opE]; omega
theorem sgrow_any (n : Nat) (h : n ≤ 1000000) (w : World) : Calls Try.prog 85 #[.slice none 0 0, .int .i64 n] w (fun e w' => ∃ v, e = .returned v ∧ OwnE opE w.heap.size w' v [] ∧ Below w.heap.size w w') := by
  by_cases h0 : 0 < n
  · exact (sgrow_pos n h0 h w).mono fun e w' ⟨cap, _, he, ho, hb⟩ => ⟨_, he, ho, hb⟩
  · obtain rfl : n = 0 := by omega
    refine (sgrow_zero w).mono fun e w' ⟨he, hw⟩ => ⟨_, he, World.ownsRow_nil _ _ _ _, by rw [hw]; exact Below.refl _ _⟩
/-- the first j of two rows, joined -/
def twoS (A C : List Sq.O) (j : Nat) : List Sq.O := if j = 0 then [] else if j = 1 then A else A ++ C
theorem twoS_len {A C : List Sq.O} {j : Nat} (l1 : A.length ≤ 100) (l2 : C.length ≤ 100) : (twoS A C j).length ≤ 200 := by
  unfold twoS; split
  · simp
  · split
    · omega
    · rw [List.length_append]; omega
theorem twoS_step {A C : List Sq.O} {a c : Option Addr} {a3 c3 b : Nat} {w : World} {j : Nat} (hj : j < 2) (h0 : w.cell? ⟨b, 0, none⟩ = some (.slice a A.length a3)) (h1 : w.cell? ⟨b, 1, none⟩ = some (.slice c C.length c3))
    (q1 : Row opE w a A) (q2 : Row opE w c C) (k1 : a = none → a3 = 0) (k2 : c = none → c3 = 0) (l1 : A.length ≤ 100) (l2 : C.length ≤ 100) :
    ∃ (p : Option Addr) (l : List Sq.O) (cap : Nat), w.cell? ⟨b, j, none⟩ = some (.slice p l.length cap) ∧ Row opE w p l ∧ (p = none → cap = 0) ∧ l.length ≤ 100 ∧ twoS A C (j + 1) = twoS A C j ++ l := by
  obtain rfl | rfl : j = 0 ∨ j = 1 := by omega
  · exact ⟨a, A, a3, h0, q1, k1, l1, rfl⟩
  · exact ⟨c, C, c3, h1, q2, k2, l2, rfl⟩
set_option maxHeartbeats 4000000 in
theorem sconcat_any (a c : Option Addr) (a3 c3 b : Nat) (A C : List Sq.O) (w : World) (h0 : w.cell? ⟨b, 0, none⟩ = some (.slice a A.length a3)) (h1 : w.cell? ⟨b, 1, none⟩ = some (.slice c C.length c3))
    (q1 : Row opE w a A) (q2 : Row opE w c C) (k1 : a = none → a3 = 0) (k2 : c = none → c3 = 0) (l1 : A.length ≤ 100) (l2 : C.length ≤ 100) :
    Calls Try.prog 56 #[.slice (some ⟨b, 0, none⟩) 2 2] w fun e w' => ∃ v, e = .returned v ∧ OwnE opE w.heap.size w' v (A ++ C) ∧ Below w.heap.size w w' := by
  have ST : Hid (∀ w', Below w.heap.size w w' → ∀ j, j < 2 → ∃ (p : Option Addr) (l : List Sq.O) (cap : Nat), w'.cell? ⟨b, j, none⟩ = some (.slice p l.length cap) ∧ Row opE w' p l ∧ (p = none → cap = 0) ∧ l.length ≤ 100 ∧ twoS A C (j + 1) = twoS A C j ++ l) :=
    Lib.hid fun w' hb j hj => twoS_step hj ((hb.cell (p := ⟨b, 0, none⟩) (cell_block_lt h0)).trans h0) ((hb.cell (p := ⟨b, 1, none⟩) (cell_block_lt h1)).trans h1) (q1.mono hb) (q2.mono hb) k1 k2 l1 l2
  have TL := Lib.hid (fun j => twoS_len (j := j) l1 l2)
  clear h0 h1 q1 q2 k1 k2 l1 l2
  go_enter Try.func56, Try.ntmps56
  go_wp2_with fail
  go_loopw [3, 11] (fun t i wr => ∃ j : Nat, j ≤ 2 ∧ i = .int .i64 j ∧ t = .int .i64 ((twoS A C j).length : Nat) ∧ w = wr) (fun _ i _ => 2 - (intOf i).toNat)
  case atStart => exact ⟨0, by omega, rfl, rfl, rfl⟩
  case round =>
    obtain ⟨j, hj, rfl, rfl, rfl⟩ := hrel
    have b0 : (0 : Int) ≤ (j : Int) := by omega
    by_cases hlt : j < 2
    · have g1 : decide ((j : Int) < 2) = true := decide_eq_true (by omega)
      have b1 : (j : Int) < 2 := by omega
      obtain ⟨p, l, cap, hc, -, -, hl, ht⟩ := ST.out w (Below.refl _ _) j hlt
      have tl := TL.out j
      have NX := Lib.hid (show (twoS A C (j + 1)).length = (twoS A C j).length + l.length by rw [ht, List.length_append])
      obtain ⟨m, hm⟩ : ∃ m, m = (twoS A C j).length := ⟨_, rfl⟩
      rw [← hm] at tl NX ⊢
      have w1 : IntKind.i64.wrap ((m : Int) + (l.length : Int)) = (m : Int) + (l.length : Int) := IntWalk.i64_in _ (by omega)
      have g2 : decide ((m : Int) + (l.length : Int) < 0) = false := decide_eq_false (by omega)
      clear ht hm tl hl
      go_wp2_with fail
      go_roundw
      case rel => exact ⟨j + 1, hlt, by go_num, by rw [NX.out]; go_num, trivial⟩
      case measure => first | (simp [intOf]; done) | (simp [intOf]; omega)
    · have g1 : decide ((j : Int) < 2) = false := decide_eq_false (by omega)
      obtain rfl : j = 2 := by omega
      have tl := TL.out 2
      have GR := Lib.hid (sgrow_any (twoS A C 2).length (by omega) w)
      clear tl b0 hj hlt
      go_wp2_with fail
      refine GR.out.mono ?_
      rintro e w1 ⟨v, rfl, own, bel⟩
      have OWN := Lib.hid own
      have BEL := Lib.hid bel
      clear own bel GR g1
      go_wp2_with fail
      go_loopw [6, 27] (fun u i wq => ∃ j : Nat, j ≤ 2 ∧ i = .int .i64 j ∧ Hid (OwnE opE w.heap.size wq u (twoS A C j)) ∧ Hid (Below w.heap.size w wq)) (fun _ i _ => 2 - (intOf i).toNat)
      case atStart => exact ⟨0, by omega, rfl, OWN, BEL⟩
      case round =>
        clear OWN BEL
        obtain ⟨j, hj, rfl, OWN, BEL⟩ := hrel
        have b0 : (0 : Int) ≤ (j : Int) := by omega
        by_cases hlt : j < 2
        · have g1 : decide ((j : Int) < 2) = true := decide_eq_true (by omega)
          have b1 : (j : Int) < 2 := by omega
          obtain ⟨p, l, cap, hc, hs, hn, hl, ht⟩ := ST.out wr BEL.out j hlt
          have HS := Lib.hid hs
          have HN := Lib.hid hn
          have HT := Lib.hid ht
          have HL := Lib.hid (show ((twoS A C j).length + l.length) * opE.bytes ≤ 140737488355328 by have := TL.out j; show _ * 56 ≤ _; omega)
          have HM := Lib.hid (show (twoS A C j).length + l.length ≤ maxLen by have := TL.out j; unfold maxLen; omega)
          have HZ := Lib.hid BEL.out.size
          clear hs hn ht hl
          go_wp2_with (at_builtin; refine wp_appN opE rfl (.tmp 31) (.tmp 32) rfl w.heap.size _ (twoS A C j) l p cap rfl OWN.out rfl HS.out HN.out HL.out HM.out HZ.out ?_; intro v' w' own bel)
          have OWN2 : Hid (OwnE opE w.heap.size w' v' (twoS A C (j + 1))) := Lib.hid (by rw [HT.out]; exact own)
          have BEL2 := Lib.hid (BEL.out.grown bel HZ.out (fun k hk => (ownE_block OWN.out k hk).1))
          clear own bel
          go_wp2_with fail
          go_roundw
          case rel => exact ⟨j + 1, hlt, by go_num, OWN2, BEL2⟩
          case measure => first | (simp [intOf]; done) | (simp [intOf]; omega)
        · have g1 : decide ((j : Int) < 2) = false := decide_eq_false (by omega)
          obtain rfl : j = 2 := by omega
          go_wp2_with fail
          go_ret
          exact ⟨_, rfl, OWN.out, BEL.out⟩
end Go.Proofs.Ytidncnhhjfdifaa
