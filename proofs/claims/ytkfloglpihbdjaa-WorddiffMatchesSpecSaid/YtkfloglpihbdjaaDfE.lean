
/-
  The program's diff.eachKept, walked, with whatever function it is handed.
-/
import Derived.Test.YtkfloglpihbdjaaDfT
import Derived.Test.YtkfloglpihbdjaaDifA
import Derived.Shelf.Abstract
namespace Go.Proofs.Ytkfloglpihbdjaa
open Go.RowKit
set_option maxRecDepth 4000

/-- the blocks below A, and those in [B, C), are as they were -/
structure Far (A B C : Nat) (w w' : World) : Prop where
  below : Below A w w'
  mid : ∀ k, B ≤ k → k < C → w'.heap[k]? = w.heap[k]?
theorem Far.refl (A B C : Nat) (w : World) : Far A B C w w := ⟨Below.refl _ _, fun _ _ _ => rfl⟩
theorem Far.trans {A B C : Nat} {w w' w'' : World} (h : Far A B C w w') (k : Far A B C w' w'') : Far A B C w w'' :=
  ⟨h.below.trans k.below, fun x h1 h2 => (k.mid x h1 h2).trans (h.mid x h1 h2)⟩
theorem Far.drewN {A B C : Nat} {w w' : World} (h : Far A B C w w') (n : Nat) : Far A B C w (w'.drewN n) := ⟨below_drewN h.below n, h.mid⟩

/-- what a caller of eachKept owes: I holds of what was walked so far; the function keeps it -/
structure Keeps (f : FuncId) (caps : Array Value) (a b : List ByteArray) (A B : Nat) (w0 w : World) (I : Nat → Nat → Nat → List (Nat × ByteArray) → World → Prop) : Prop where
  start : ∀ w1, Below B w w1 → I w1.heap.size 0 0 [] w1
  draw : ∀ C i j out w1 n, I C i j out w1 → I C i j out (w1.drewN n)
  del : ∀ C i j out w1 (hi : i < a.length), I C i j out w1 → AAt a b i j out → I C (i + 1) j (out ++ [(1, a[i])]) w1
  ins : ∀ C i j out w1 (hj : j < b.length), I C i j out w1 → AAt a b i j out → I C i (j + 1) (out ++ [(2, b[j])]) w1
  keep : ∀ C i j out w1 (hi : i < a.length) (hj : j < b.length), I C i j out w1 → AAt a b i j out → a[i] = b[j] → B ≤ C → C ≤ w1.heap.size → Below A w0 w1 →
    Calls Try.prog f (#[.int .i64 (i : Int), .int .i64 (j : Int)] ++ caps) w1 fun e w2 => e = .returned (.tuple #[]) ∧ I C (i + 1) (j + 1) (out ++ [(0, a[i])]) w2 ∧ Far A B C w1 w2

theorem Keeps.finish {f : FuncId} {caps : Array Value} {a b : List ByteArray} {A B : Nat} {w0 w : World} {I : Nat → Nat → Nat → List (Nat × ByteArray) → World → Prop} (H : Keeps f caps a b A B w0 w I) {C : Nat} {w1 : World} :
    ∀ (k i j : Nat) (out : List (Nat × ByteArray)), k = (a.length - i) + (b.length - j) → AAt a b i j out → (a.length ≤ i ∨ b.length ≤ j) → I C i j out w1 → I C a.length b.length (Dif.al a b) w1 := by
  intro k
  induction k with
  | zero =>
    intro i j out hk hA _ h
    have h1 := hA.hi
    have h2 := hA.hj
    have e := hA.done (by omega) (by omega)
    have e1 : i = a.length := by omega
    have e2 : j = b.length := by omega
    subst e e1 e2; exact h
  | succ k ih =>
    intro i j out hk hA ho h
    have h1 := hA.hi
    have h2 := hA.hj
    by_cases hi : i < a.length
    · have hj : ¬ j < b.length := by omega
      exact ih (i + 1) j _ (by omega) (hA.del hi (fun h => (hj h).elim)) (.inr (by omega)) (H.del C i j out w1 hi h hA)
    · have hj : j < b.length := by omega
      exact ih i (j + 1) _ (by omega) (hA.ins hj (fun h => (hi h).elim)) (.inl (by omega)) (H.ins C i j out w1 hj h hA)

set_option maxRecDepth 100000 in
set_option maxHeartbeats 4000000 in
theorem each_any (f : FuncId) (caps : Array Value) (I : Nat → Nat → Nat → List (Nat × ByteArray) → World → Prop) (p q : Option Addr) (a b : List ByteArray) (n m cap cap' : Nat) (w0 w : World) (hn : n = a.length) (hm : m = b.length)
    (hp : Sts w0 p a) (hq : Sts w0 q b) (ha : a.length ≤ 1000000) (hb : b.length ≤ 1000000) (h0 : Below w0.heap.size w0 w) (ef : Enters Try.prog f) (H : Keeps f caps a b w0.heap.size w.heap.size w0 w I) :
    Calls Try.prog 30 #[.slice p n cap, .slice q m cap', .func (.func f) #[] caps] w fun e w' => e = .returned (.tuple #[]) ∧ ∃ C, I C a.length b.length (Dif.al a b) w' ∧ w.heap.size ≤ C ∧ C ≤ w'.heap.size ∧ Below w0.heap.size w0 w' := by
  subst hn hm
  have HP := Lib.hid hp
  have HQ := Lib.hid hq
  have HK := Lib.hid H
  have H0 := Lib.hid h0
  have hz0 := h0.size
  have ef' : ∀ (args : Array Value) (w : World), (callFunc f args).run Try.prog w = .ok (.enter f args) w := ef
  clear ef
  go_enter Try.func30, Try.ntmps30
  go_wp2_with fail
  refine (lengths_any p q a b _ _ _ _ _ rfl rfl (hp.mono h0) (hq.mono h0) ha hb).mono ?_
  rintro e w1 ⟨g, rfl, tab, hb1⟩
  have TB := Lib.hid tab
  have HB1 := Lib.hid hb1
  have hz1 := hb1.size
  have I0 := Lib.hid (H.start w1 hb1)
  have B0 := Lib.hid (h0.trans (hb1.mono hz0))
  clear hp hq tab hb1 H h0
  go_wp2_with fail
  go_loopw [7, 8] (fun i j wr => ∃ (x y : Nat) (out : List (Nat × ByteArray)), i = .int .i64 x ∧ j = .int .i64 y ∧ Hid (I w1.heap.size x y out wr) ∧ Hid (AAt a b x y out) ∧ Hid (Below w0.heap.size w0 wr) ∧ Hid (Far w0.heap.size w.heap.size w1.heap.size w1 wr)) (fun i j _ => a.length + b.length - (intOf i).toNat - (intOf j).toNat)
  case atStart => exact ⟨0, 0, [], rfl, rfl, I0, Lib.hid (AAt.start _ _), B0, Lib.hid (Far.refl _ _ _ _)⟩
  case round =>
    obtain ⟨i, j, out, rfl, rfl, hI, hA, hB, hF⟩ := hrel
    clear I0 B0
    have hi := hA.out.hi
    have hj := hA.out.hj
    have hzr := hF.out.below.size
    have TW := Lib.hid (TB.out.same hF.out.mid)
    have b1 : (0 : Int) ≤ (i : Int) := by omega
    have b3 : (0 : Int) ≤ (j : Int) := by omega
    by_cases hi' : i < a.length
    · have i1 : decide (i < a.length) = true := by simpa using hi'
      have b2 : (i : Int) < (a.length : Int) := by omega
      by_cases hj' : j < b.length
      · have j1 : decide (j < b.length) = true := by simpa using hj'
        have b4 : (j : Int) < (b.length : Int) := by omega
        obtain ⟨bp, op, rfl, hbp, cx⟩ := HP.out.cell hi'
        obtain ⟨bq, oq, rfl, hbq, cy⟩ := HQ.out.cell hj'
        have h1 : wr.cell? ⟨bp, op + i, none⟩ = some (.string a[i]) := by rw [hB.out.cell (p := ⟨bp, op + i, none⟩) hbp, cx]
        have h2 : wr.cell? ⟨bq, oq + j, none⟩ = some (.string b[j]) := by rw [hB.out.cell (p := ⟨bq, oq + j, none⟩) hbq, cy]
        clear cx cy
        by_cases he : a[i] = b[j]
        · have hA' := Lib.hid (hA.out.keep hi' hj' he)
          have K := fun n => Lib.hid (HK.out.keep w1.heap.size i j out (wr.drewN n) hi' hj' (HK.out.draw _ _ _ _ _ n hI.out) hA.out he hz1 hzr (below_drewN hB.out n))
          obtain ⟨x, hx⟩ : ∃ x, x = a[i] := ⟨_, rfl⟩
          rw [← he] at h2
          rw [← hx] at h1 h2 hA' K
          clear he hx
          go_wp2_with fail
          go_quiet (fail)
          go_wp2_with fail
          refine (K _).out.mono ?_
          rintro e w2 ⟨rfl, hI2, hF2⟩
          have HI2 := Lib.hid hI2
          have HF2 := Lib.hid (hF.out.trans (((Far.refl _ _ _ _).drewN _).trans hF2))
          have HB2 := Lib.hid ((below_drewN hB.out _).trans hF2.below)
          clear hI2 hF2
          go_wp2_with fail
          go_roundw
          case rel => exact ⟨i + 1, j + 1, _, by go_num, by go_num, HI2, hA', HB2, HF2⟩
          case measure => first | (simp [intOf]; done) | (simp [intOf]; omega)
        · obtain ⟨q1, c1, cc1⟩ := TW.out.row (k := i + 1) hi'
          obtain ⟨q0, c0, cc0⟩ := TW.out.row (k := i) hi
          have m1 := cc1 j hj
          have m0 := cc0 (j + 1) hj'
          have hD := fun h => (Lib.hid (And.intro (hA.out.del hi' (fun _ => ⟨he, h⟩)) (fun n => HK.out.draw _ _ _ _ _ n (HK.out.del _ i j out wr hi' hI.out hA.out))) : Hid (AAt a b (i + 1) j (out ++ [(1, a[i])]) ∧ ∀ n, I w1.heap.size (i + 1) j (out ++ [(1, a[i])]) (wr.drewN n)))
          have hN := fun h => (Lib.hid (And.intro (hA.out.ins hj' (fun _ => ⟨he, h⟩)) (fun n => HK.out.draw _ _ _ _ _ n (HK.out.ins _ i j out wr hj' hI.out hA.out))) : Hid (AAt a b i (j + 1) (out ++ [(2, b[j])]) ∧ ∀ n, I w1.heap.size i (j + 1) (out ++ [(2, b[j])]) (wr.drewN n)))
          have e1 := tl_false he
          have wi : IntKind.i64.wrap ((i : Int) + 1) = (i : Int) + 1 := IntWalk.i64_in _ (by omega)
          have wj : IntKind.i64.wrap ((j : Int) + 1) = (j : Int) + 1 := IntWalk.i64_in _ (by omega)
          have b8 : (0 : Int) ≤ (i : Int) + 1 := by omega
          have b9 : (0 : Int) ≤ (j : Int) + 1 := by omega
          have b5 : (i : Int) < (a.length : Int) + 1 := by omega
          have b6 : (j : Int) < (b.length : Int) + 1 := by omega
          clear cc1 cc0
          obtain ⟨x, hx⟩ : ∃ x, x = a[i] := ⟨_, rfl⟩
          obtain ⟨y, hy⟩ : ∃ y, y = b[j] := ⟨_, rfl⟩
          obtain ⟨p1, hp1⟩ : ∃ p1, p1 = tv a b i (j + 1) := ⟨_, rfl⟩
          obtain ⟨p2, hp2⟩ : ∃ p2, p2 = tv a b (i + 1) j := ⟨_, rfl⟩
          rw [← hx] at h1 hD e1
          rw [← hy] at h2 hN e1
          rw [← hp1] at m0 hD hN
          rw [← hp2] at m1 hD hN
          clear hx hy hp1 hp2 he
          by_cases hle : p1 ≤ p2
          · have g1 : decide (p1 ≤ p2) = true := by simpa using hle
            have hA' := hD hle
            clear hD hN hle
            go_wp2_with fail
            go_quiet (fail)
            go_wp2_with fail
            go_quiet (fail)
            go_wp2_with fail
            go_roundw
            case rel => exact ⟨i + 1, j, _, by go_num, rfl, Lib.hid (hA'.out.2 _), Lib.hid hA'.out.1, Lib.hid (below_drewN hB.out _), Lib.hid (hF.out.drewN _)⟩
            case measure => first | (simp [intOf]; done) | (simp [intOf]; omega)
          · have g1 : decide (p1 ≤ p2) = false := by simpa using hle
            have hA' := hN hle
            clear hD hN hle
            go_wp2_with fail
            go_quiet (fail)
            go_wp2_with fail
            go_quiet (fail)
            go_wp2_with fail
            go_roundw
            case rel => exact ⟨i, j + 1, _, rfl, by go_num, Lib.hid (hA'.out.2 _), Lib.hid hA'.out.1, Lib.hid (below_drewN hB.out _), Lib.hid (hF.out.drewN _)⟩
            case measure => first | (simp [intOf]; done) | (simp [intOf]; omega)
      · have j1 : decide (j < b.length) = false := by simpa using hj'
        have R := Lib.hid (HK.out.finish _ i j out rfl hA.out (.inr (by omega)) hI.out)
        go_wp2_with fail
        go_returns
        exact ⟨rfl, _, R.out, hz1, hzr, hB.out⟩
    · have i1 : decide (i < a.length) = false := by simpa using hi'
      have R := Lib.hid (HK.out.finish _ i j out rfl hA.out (.inl (by omega)) hI.out)
      go_wp2_with fail
      go_returns
      exact ⟨rfl, _, R.out, hz1, hzr, hB.out⟩
end Go.Proofs.Ytkfloglpihbdjaa
