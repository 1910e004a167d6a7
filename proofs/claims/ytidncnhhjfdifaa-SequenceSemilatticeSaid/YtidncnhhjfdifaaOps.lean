
/-
  A slice of operations that came in.
-/
import Derived.Test.YtidncnhhjfdifaaSqA
import Derived.Deep.Slices
import Derived.Deep.Strs
import Derived.ChangeArms
namespace Go.Proofs.Ytidncnhhjfdifaa
open Go.RowKit
set_option maxRecDepth 4000
set_option maxRecDepth 4000

theorem cells6 {w : World} {base : Nat} {a : Addr} {cs : List Value} (h : w.cells? base a 6 = some cs) :
    ∃ c0 c1 c2 c3 c4 c5, cs = [c0, c1, c2, c3, c4, c5] ∧ w.cell? (a.add 0) = some c0 ∧ w.cell? (a.add 1) = some c1 ∧ w.cell? (a.add 2) = some c2 ∧ w.cell? (a.add 3) = some c3 ∧ w.cell? (a.add 4) = some c4 ∧ w.cell? (a.add 5) = some c5 := by
  unfold World.cells? at h
  split at h
  · simp only [List.range, List.range.loop, List.mapM_cons, List.mapM_nil, Option.bind_eq_bind, Option.pure_def, Option.bind_eq_some_iff, Option.some.injEq] at h
    obtain ⟨c0, h0, r0, ⟨c1, h1, r1, ⟨c2, h2, r2, ⟨c3, h3, r3, ⟨c4, h4, r4, ⟨c5, h5, r5, h6, h7⟩, h8⟩, h9⟩, h10⟩, h11⟩, h12⟩ := h
    subst h6 h7 h8 h9 h10 h11
    exact ⟨c0, c1, c2, c3, c4, c5, h12.symm, h0, h1, h2, h3, h4, h5⟩
  · cases h
theorem weightsO_get {H : Type} {P : Program} {e : TypeId} {l : List (DataW H)} {d : DataW H} (h : d ∈ l) {q : Nat → Bool} (ha : (DataW.weightsAll P e l).all q = true) : (d.weights P e).all q = true := by
  induction l with
  | nil => cases h
  | cons x r ih =>
    rw [DataW.weightsAll, List.all_append, Bool.and_eq_true] at ha
    rcases List.mem_cons.1 h with rfl | h
    · exact ha.1
    · exact ih h ha.2
theorem trod_struct6 {H : Type} {enc : TypeId × Value → H} {P : Program} {w : World} {base : Nat} {spare : Nat → Bool} {held : Bool} {t : TypeId} {f0 f1 f2 f3 f4 f5 : Field} {fuel : Nat} {cs : List Value} {x : DataW H × List MemPlace} (ht : P.underlying t = some (.struct #[f0, f1, f2, f3, f4, f5])) (h : DataW.trod enc P w base spare held fuel t cs = some x) :
    ∃ y0 y1 y2 y3 y4 y5 n, x.1 = .agg [y0.1, y1.1, y2.1, y3.1, y4.1, y5.1] ∧ DataW.trod enc P w base spare held n f0.type ((cs.drop f0.offset).take (P.cellsOf f0.type)) = some y0 ∧
      DataW.trod enc P w base spare held n f1.type ((cs.drop f1.offset).take (P.cellsOf f1.type)) = some y1 ∧ DataW.trod enc P w base spare held n f2.type ((cs.drop f2.offset).take (P.cellsOf f2.type)) = some y2 ∧
      DataW.trod enc P w base spare held n f3.type ((cs.drop f3.offset).take (P.cellsOf f3.type)) = some y3 ∧ DataW.trod enc P w base spare held n f4.type ((cs.drop f4.offset).take (P.cellsOf f4.type)) = some y4 ∧
      DataW.trod enc P w base spare held n f5.type ((cs.drop f5.offset).take (P.cellsOf f5.type)) = some y5 := by
  obtain ⟨xs, n, _, rfl, hl, hlen, hf⟩ := DataW.trod_struct ht h
  match xs, hlen with
  | [y0, y1, y2, y3, y4, y5], _ => exact ⟨y0, y1, y2, y3, y4, y5, n, by simp, by simpa using hf 0 f0 rfl, by simpa using hf 1 f1 rfl, by simpa using hf 2 f2 rfl, by simpa using hf 3 f3 rfl, by simpa using hf 4 f4 rfl, by simpa using hf 5 f5 rfl⟩
theorem op_cell {H : Type} {enc : TypeId × Value → H} {W : World} {cs : List Value} {y : DataW H × List MemPlace} {fuel : Nat} (h6 : cs.length = 6)
    (h : DataW.trod enc Try.prog W 0 (fun _ => true) true fuel 53 cs = some y) (hsz : (y.1.weights Try.prog 53).all (· ≤ 140737488351232) = true) :
    ∃ o : Sq.O, cs = o.enc ∧ o.line.size ≤ 140737488351232 := by
  match cs, h6 with
  | [c0, c1, c2, c3, c4, c5], _ =>
    obtain ⟨y0, y1, y2, y3, y4, y5, m, hy, t0, t1, t2, t3, t4, t5⟩ := trod_struct6 Try.underlying53 h
    have e1 : Try.prog.cellsOf 3 = 1 := by kernel_rfl
    have e2 : Try.prog.cellsOf 4 = 1 := by kernel_rfl
    have e3 : Try.prog.cellsOf 9 = 1 := by kernel_rfl
    simp only [e1, e2, e3, List.drop_zero, List.drop_succ_cons, List.take_succ_cons, List.take_zero] at t0 t1 t2 t3 t4 t5
    obtain ⟨b, hb, -⟩ := DataW.trod_bool Try.underlying4 t0
    obtain ⟨n1, h1, -, -⟩ := DataW.trod_int Try.underlying3 t1
    obtain ⟨n2, h2, -, -⟩ := DataW.trod_int Try.underlying3 t2
    obtain ⟨n3, h3, -, -⟩ := DataW.trod_int Try.underlying3 t3
    obtain ⟨n4, h4, -, -⟩ := DataW.trod_int Try.underlying3 t4
    obtain ⟨s, h5, hx5, -⟩ := DataW.trod_string Try.underlying9 t5
    have ew : (DataW.agg [y0.1, y1.1, y2.1, y3.1, y4.1, y5.1] : DataW H).weights Try.prog 53 = y0.1.weights Try.prog 4 ++ (y1.1.weights Try.prog 3 ++ (y2.1.weights Try.prog 3 ++ (y3.1.weights Try.prog 3 ++ (y4.1.weights Try.prog 3 ++ (y5.1.weights Try.prog 9 ++ []))))) := by
      rw [DataW.weights, Try.underlying53]; rfl
    have hz : (y5.1.weights Try.prog 9).all (· ≤ 140737488351232) = true := by
      have h' : ((DataW.agg [y0.1, y1.1, y2.1, y3.1, y4.1, y5.1] : DataW H).weights Try.prog 53).all (· ≤ 140737488351232) = true := by rw [← hy]; exact hsz
      rw [ew] at h'
      simp only [List.all_append, Bool.and_eq_true] at h'
      exact h'.2.2.2.2.2.1
    rw [show y5.1 = .lit (.string s.data.toList) from congrArg Prod.fst hx5] at hz
    refine ⟨⟨b, n1, n2, n3, n4, s⟩, ?_, by simpa [DataW.weights] using hz⟩
    simp only [List.cons.injEq, and_true] at hb h1 h2 h3 h4 h5
    subst hb h1 h2 h3 h4 h5
    rfl
theorem ops_open {H : Type} {enc : TypeId × Value → H} {W : World} {v : Value} {d : DataW H} {ps : List MemPlace} {fuel : Nat} (hv : ∃ p len cap, v = .slice p len cap)
    (h : DataW.trod enc Try.prog W 0 (fun _ => true) true fuel 41 v.cells.toList = some (d, ps)) (hsz : (d.weights Try.prog 41).all (· ≤ 140737488351232) = true) :
    ∃ p l cap, v = .slice p (List.length l) cap ∧ Row opE W p l ∧ (p = none → cap = 0) ∧ l.length ≤ 2513169434845 ∧ l.length ≤ cap ∧ ∀ o ∈ l, o.line.size ≤ 140737488351232 := by
  obtain ⟨p0, len0, cap0, rfl⟩ := hv
  have e6 : Try.prog.cellsOf 53 = 6 := by kernel_rfl
  simp only [Value.cells] at h
  generalize hy : (d, ps) = y at h
  have hd : d = y.1 := by rw [← hy]
  rw [hd] at hsz
  clear hy hd
  rcases Deep.open_slice Try.underlying41 h with ⟨hc, -⟩ | ⟨a, len, cap, mm, n, D, Pl, hc, -, hlen, hmax, hm, rfl, hel⟩
  · have hc : Value.slice p0 len0 cap0 = .slice none 0 0 := by simpa using hc
    exact ⟨none, [], 0, hc, Row.nil _ _ _, fun _ => rfl, by simp, by simp, fun k hk => by cases hk⟩
  · have hc : Value.slice p0 len0 cap0 = .slice (some a) len cap := by simpa using hc
    simp only [if_true] at hm
    subst hm
    rw [DataW.weights, Try.underlying41] at hsz
    simp only [List.all_cons, List.all_append, Bool.and_eq_true] at hsz
    obtain ⟨hw0, hw1, -⟩ := hsz
    have hb : Try.prog.bytesOf 53 = 56 := by kernel_rfl
    rw [hb, List.length_map, List.length_map, List.length_range, List.length_range] at hw0
    have hw0' := of_decide_eq_true hw0
    have each : ∀ i, i < len → ∃ o : Sq.O, (∀ k u, (opE.enc o)[k]? = some u → W.cell? ((a.add (i * 6)).add k) = some u) ∧ o.line.size ≤ 140737488351232 := fun i hi => by
      obtain ⟨cs', h1, h2⟩ := hel i (by omega)
      rw [e6] at h1
      obtain ⟨c0, c1, c2, c3, c4, c5, rfl, k0, k1, k2, k3, k4, k5⟩ := cells6 h1
      have hwi := weightsO_get (List.mem_map.2 ⟨i, List.mem_range.2 hi, rfl⟩) hw1
      obtain ⟨o, e, r⟩ := op_cell rfl h2 hwi
      refine ⟨o, fun k u hu => ?_, r⟩
      rw [show opE.enc o = o.enc from rfl, ← e] at hu
      match k, hu with
      | 0, hu => cases hu; exact k0
      | 1, hu => cases hu; exact k1
      | 2, hu => cases hu; exact k2
      | 3, hu => cases hu; exact k3
      | 4, hu => cases hu; exact k4
      | 5, hu => cases hu; exact k5
      | k + 6, hu => simp at hu
    obtain ⟨K, hK⟩ : ∃ K : Nat → Sq.O, ∀ i, i < len → (∀ k u, (opE.enc (K i))[k]? = some u → W.cell? ((a.add (i * 6)).add k) = some u) ∧ (K i).line.size ≤ 140737488351232 :=
      ⟨fun i => if h : i < len then (each i h).choose else ⟨false, 0, 0, 0, 0, ByteArray.empty⟩, fun i hi => by simp only [dif_pos hi]; exact (each i hi).choose_spec⟩
    have hl : ((List.range len).map K).length = len := by simp
    refine ⟨some a, (List.range len).map K, mm, by rw [hl]; exact hc, ⟨(fun h => by cases h), fun hn => ?_⟩, (fun h => by cases h), by rw [hl]; omega, by rw [hl]; exact hlen, fun k hk => ?_⟩
    · have h0 : 0 < len := by
        rcases Nat.eq_zero_or_pos len with h0 | h0
        · subst h0; simp at hn
        · exact h0
      have c0 := (hK 0 h0).1 0 _ rfl
      rw [Nat.zero_mul, add_spot, add_spot] at c0
      have hsp := cell_spot c0
      have hlt := cell_block_lt c0
      obtain ⟨b, off, sp⟩ := a
      dsimp only at hsp hlt
      subst hsp
      refine ⟨b, off, rfl, hlt, fun i hi k u hu => ?_⟩
      rw [hl] at hi
      have ei : ((List.range len).map K)[i]'(by rw [hl]; exact hi) = K i := by simp
      rw [ei] at hu
      have := (hK i hi).1 k u hu
      rwa [add_at, add_at] at this
    · obtain ⟨i, hi, rfl⟩ := List.mem_map.1 hk
      exact (hK i (List.mem_range.1 hi)).2
end Go.Proofs.Ytidncnhhjfdifaa
