
/-
  slices.Values and slices.Backward at operations: the iterators, over whatever invariant abides their steps.
-/
import Derived.Test.YtidncnhhjfdifaaSqF
import Derived.Test.YtidncnhhjfdifaaRng
import Derived.Shelf.Abstract
import Derived.Shelf.RegionOpen
import Derived.OwnWalkIn
import Derived.TacticsInMore
import Derived.LoopNIn
import Derived.LoopIn
namespace Go.Proofs.Ytidncnhhjfdifaa
open Go.RowKit Go.Shelf
set_option maxRecDepth 4000
attribute [local go_sem] Oper.semAt_some

theorem values_mk (p : Option Addr) (n cap : Nat) (w : World) : Calls Try.prog 80 #[.slice p n cap] w fun e w' => e = .returned (.func (.func 107) #[] #[.pointer (some ⟨w.heap.size, 0, none⟩)]) ∧ w' = w.alloc (.cells #[.slice p n cap] 41) := by
  go_enter Try.func80, Try.ntmps80
  go_wp2
  go_ret
  exact ⟨rfl, rfl⟩
theorem backward_mk (p : Option Addr) (n cap : Nat) (w : World) : Calls Try.prog 50 #[.slice p n cap] w fun e w' => e = .returned (.func (.func 78) #[] #[.pointer (some ⟨w.heap.size, 0, none⟩)]) ∧ w' = w.alloc (.cells #[.slice p n cap] 41) := by
  go_enter Try.func50, Try.ntmps50
  go_wp2
  go_ret
  exact ⟨rfl, rfl⟩
set_option maxRecDepth 100000 in
set_option maxHeartbeats 4000000 in
theorem values_iter (n : Nat) (p : Option Addr) (l : List Sq.O) (cap : Nat) (hl : l.length ≤ 2513169434845) (bn : Nat) (I : Nat → World → Prop)
    (hcell : ∀ k W, I k W → W.cell? ⟨bn, 0, none⟩ = some (.slice p l.length cap)) (hrow : ∀ k W, I k W → Row opE W p l) (halloc : ∀ k W c t, I k W → I k (W.alloc (.cells c t (0, 0)))) :
    Rng.Iter n Try.prog 107 #[.pointer (some ⟨bn, 0, none⟩)] (fun x : Sq.O => #[x.v]) (fun k _ => k + 1) (fun k x => ∃ h : k < l.length, x = l[k]) I (fun k => k = l.length) 0 := by
  intro lo R W hR hRW hJ hY
  have HR := Lib.hid hR
  have HY := Lib.hid hY
  have HC := Lib.hid hcell
  have HP := Lib.hid hrow
  have HA := Lib.hid halloc
  have hc0 := hcell _ _ hJ
  clear hR hY hcell hrow halloc
  refine callsIn_of_wp Try.func107 rfl trivial ?_ rfl
  simp only [Try.ntmps107, List.size_toArray, List.length_cons, List.length_nil, Nat.reduceAdd, Nat.reduceSub, Array.replicate_succ, Array.replicate_zero, List.push_toArray, List.append_toArray, List.nil_append, List.cons_append]
  gi_wp2
  gi_loopw [7] (fun i wr => ∃ k : Nat, k ≤ l.length ∧ i = .int .i64 k ∧ I k wr ∧ R wr) (fun i _ => l.length - (intOf i).toNat)
  case atStart => exact ⟨0, Nat.zero_le _, rfl, hJ, hRW⟩
  case round =>
    obtain ⟨k, hk, rfl, hI, hRr⟩ := hrel
    have hc := HC.out k wr hI
    have b0 : (0 : Int) ≤ (k : Int) := by omega
    by_cases hlt : k < l.length
    · have b1 : (k : Int) < (l.length : Int) := by omega
      obtain ⟨bp, fp, rfl, hbp, hcc⟩ := (HP.out k wr hI).cell hlt
      obtain ⟨o, ho⟩ : ∃ o, o = l[k] := ⟨_, rfl⟩
      have HO := Lib.hid ho
      rw [← ho] at hcc
      clear ho
      have c0 : wr.cell? ⟨bp, fp + k * 6, none⟩ = some (.bool o.del) := hcc 0 _ rfl
      have c1 : wr.cell? ⟨bp, fp + k * 6 + 1, none⟩ = some (.int .i64 o.rep) := hcc 1 _ rfl
      have c2 : wr.cell? ⟨bp, fp + k * 6 + 2, none⟩ = some (.int .i64 o.cnt) := hcc 2 _ rfl
      have c3 : wr.cell? ⟨bp, fp + k * 6 + 3, none⟩ = some (.int .i64 o.arep) := hcc 3 _ rfl
      have c4 : wr.cell? ⟨bp, fp + k * 6 + 4, none⟩ = some (.int .i64 o.acnt) := hcc 4 _ rfl
      have c5 : wr.cell? ⟨bp, fp + k * 6 + 5, none⟩ = some (.string o.line) := hcc 5 _ rfl
      clear hcc
      obtain ⟨fn, tmps, assign, body, hy, hRd⟩ := HY.out k o (wr.alloc (.cells #[.bool o.del, .int .i64 o.rep, .int .i64 o.cnt, .int .i64 o.arep, .int .i64 o.acnt, .string o.line] 53 (0, 0))) ⟨hlt, HO.out⟩
        (HR.out _ _ hRr (KeepsOthers.alloc _ _)) (HA.out _ _ _ _ hI)
      unfold Sq.O.v at hy
      gi_wp2
      refine ⟨(fun h => by cases h), hRd.mono ?_⟩
      rintro e W' ⟨rfl, hR', hB'⟩
      gi_wp2
      go_roundw
      case rel => exact ⟨k + 1, hlt, by simp, hB', hR'⟩
      case measure =>
        rw [show intOf (Value.int IntKind.i64 ((k : Int) + 1)) = (k : Int) + 1 from rfl, show intOf (Value.int IntKind.i64 (k : Int)) = (k : Int) from rfl]
        omega
    · have hkl : k = l.length := by omega
      subst hkl
      have b1 : ((l.length : Int) < (l.length : Int)) = False := by simp
      gi_wp2
      go_end0
      exact ⟨⟨_, rfl⟩, hRr, _, rfl, hI⟩
/-- the elements from the last to the first -/
def bkY (l : List Sq.O) (k : Nat) (x : Nat × Sq.O) : Prop := ∃ h : x.1 < l.length, x.2 = l[x.1] ∧ k + x.1 + 1 = l.length
set_option maxRecDepth 100000 in
set_option maxHeartbeats 4000000 in
theorem backward_iter (n : Nat) (p : Option Addr) (l : List Sq.O) (cap : Nat) (hl : l.length ≤ 2513169434845) (bn : Nat) (I : Nat → World → Prop)
    (hcell : ∀ k W, I k W → W.cell? ⟨bn, 0, none⟩ = some (.slice p l.length cap)) (hrow : ∀ k W, I k W → Row opE W p l) :
    Rng.Iter n Try.prog 78 #[.pointer (some ⟨bn, 0, none⟩)] (fun x : Nat × Sq.O => #[.int .i64 x.1, x.2.v]) (fun k _ => k + 1) (bkY l) I (fun k => k = l.length) 0 := by
  intro lo R W hR hRW hJ hY
  have HY := Lib.hid hY
  have HC := Lib.hid hcell
  have HP := Lib.hid hrow
  have hc0 := hcell _ _ hJ
  clear hR hY hcell hrow
  refine callsIn_of_wp Try.func78 rfl trivial ?_ rfl
  simp only [Try.ntmps78, List.size_toArray, List.length_cons, List.length_nil, Nat.reduceAdd, Nat.reduceSub, Array.replicate_succ, Array.replicate_zero, List.push_toArray, List.append_toArray, List.nil_append, List.cons_append]
  gi_wp2
  gi_loopw [3] (fun i wr => ∃ k : Nat, k ≤ l.length ∧ i = .int .i64 ((l.length : Int) - 1 - k) ∧ I k wr ∧ R wr) (fun i _ => (intOf i + 1).toNat)
  case atStart => exact ⟨0, Nat.zero_le _, by simp, hJ, hRW⟩
  case round =>
    obtain ⟨k, hk, rfl, hI, hRr⟩ := hrel
    have hc := HC.out k wr hI
    by_cases hlt : k < l.length
    · obtain ⟨m, hm⟩ : ∃ m, k + m + 1 = l.length := ⟨l.length - 1 - k, by omega⟩
      have hml : m < l.length := by omega
      have hi : (l.length : Int) - 1 - (k : Int) = (m : Int) := by omega
      rw [hi]
      have b0 : (0 : Int) ≤ (m : Int) := by omega
      have b2 : decide ((0 : Int) ≤ (m : Int)) = true := decide_eq_true b0
      have b1 : (m : Int) < (l.length : Int) := by omega
      obtain ⟨bp, fp, rfl, hbp, hcc⟩ := (HP.out k wr hI).cell hml
      obtain ⟨o, ho⟩ : ∃ o, o = l[m] := ⟨_, rfl⟩
      have HO := Lib.hid ho
      rw [← ho] at hcc
      clear ho
      have c0 : wr.cell? ⟨bp, fp + m * 6, none⟩ = some (.bool o.del) := hcc 0 _ rfl
      have c1 : wr.cell? ⟨bp, fp + m * 6 + 1, none⟩ = some (.int .i64 o.rep) := hcc 1 _ rfl
      have c2 : wr.cell? ⟨bp, fp + m * 6 + 2, none⟩ = some (.int .i64 o.cnt) := hcc 2 _ rfl
      have c3 : wr.cell? ⟨bp, fp + m * 6 + 3, none⟩ = some (.int .i64 o.arep) := hcc 3 _ rfl
      have c4 : wr.cell? ⟨bp, fp + m * 6 + 4, none⟩ = some (.int .i64 o.acnt) := hcc 4 _ rfl
      have c5 : wr.cell? ⟨bp, fp + m * 6 + 5, none⟩ = some (.string o.line) := hcc 5 _ rfl
      clear hcc
      obtain ⟨fn, tmps, assign, body, hy, hRd⟩ := HY.out k (m, o) wr ⟨hml, HO.out, hm⟩ hRr hI
      unfold Sq.O.v at hy
      dsimp only at hy
      gi_wp2
      refine ⟨(fun h => by cases h), hRd.mono ?_⟩
      rintro e W' ⟨rfl, hR', hB'⟩
      gi_wp2
      go_roundw
      case rel => exact ⟨k + 1, hlt, by congr 1; omega, hB', hR'⟩
      case measure =>
        rw [show intOf (Value.int IntKind.i64 ((m : Int) - 1)) = (m : Int) - 1 from rfl, show intOf (Value.int IntKind.i64 (m : Int)) = (m : Int) from rfl]
        omega
    · have hkl : k = l.length := by omega
      subst hkl
      have hi : (l.length : Int) - 1 - (l.length : Int) = -1 := by omega
      rw [hi]
      gi_wp2
      go_end0
      exact ⟨⟨_, rfl⟩, hRr, _, rfl, hI⟩
end Go.Proofs.Ytidncnhhjfdifaa
