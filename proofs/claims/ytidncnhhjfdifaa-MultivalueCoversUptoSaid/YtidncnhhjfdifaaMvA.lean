
/-
  Values of a register in memory; values that came in.
-/
import Derived.Test.YtidncnhhjfdifaaMvM
import Derived.Test.YtidncnhhjfdifaaOwn
import Derived.Deep.Slices
import Derived.Deep.Strs
import Derived.ChangeArms
namespace Go.Proofs.Ytidncnhhjfdifaa
open Go.RowKit
set_option maxRecDepth 4000
set_option maxRecDepth 4000

/-- a number, as an element -/
def nE : Enc Int where
  ty := 3
  sl := 33
  size := 1
  bytes := 8
  z := .int .i64 0
  enc n := [.int .i64 n]
  len _ := rfl
  one _ u h := by rw [List.mem_singleton.1 h]; rfl
  pos := by decide
  zs := rfl
  und := Try.underlying33
  inf := by kernel_rfl
theorem Row.nat {w : World} {p : Option Addr} {l : List Int} (h : Row nE w p l) {k : Nat} (hk : k < l.length) : ∃ b off, p = some ⟨b, off, none⟩ ∧ b < w.heap.size ∧ w.cell? ⟨b, off + k, none⟩ = some (.int .i64 l[k]) := by
  obtain ⟨b, off, e, hb, hc⟩ := h.cell hk
  have := hc 0 (.int .i64 l[k]) (by simp [nE])
  rw [show nE.size = 1 from rfl, Nat.mul_one, Nat.add_zero] at this
  exact ⟨b, off, e, hb, this⟩
/-- a value as it lies: its number, where its vector lies, the vector -/
structure Mv.R where
  val : Int
  p : Option Addr
  cap : Nat
  vec : List Int
namespace Mv
instance : Inhabited R := ⟨⟨0, none, 0, []⟩⟩
def R.v (r : R) : V := ⟨r.val, r.vec⟩
def R.sl (r : R) : Value := .slice r.p r.vec.length r.cap
def R.agg (r : R) : Value := .agg #[.int .i64 r.val, .slice r.p r.vec.length r.cap]
def vs (rs : List R) : List V := rs.map R.v
theorem vs_len (rs : List R) : (vs rs).length = rs.length := List.length_map ..
end Mv
def rwE : Enc Mv.R where
  ty := 35
  sl := 22
  size := 2
  bytes := 32
  z := .agg #[.int .i64 0, .slice none 0 0]
  enc r := [.int .i64 r.val, .slice r.p r.vec.length r.cap]
  len _ := rfl
  one x u hu := by
    simp only [List.mem_cons, List.not_mem_nil, or_false] at hu
    rcases hu with rfl | rfl <;> rfl
  pos := by omega
  zs := rfl
  und := Try.underlying22
  inf := by kernel_rfl
/-- p leads in w to the values rs, whose vectors can be read -/
structure Vs (w : World) (p : Option Addr) (rs : List Mv.R) : Prop where
  row : Row rwE w p rs
  vec : ∀ r ∈ rs, Row nE w r.p r.vec
theorem Vs.mono {w w' : World} {p : Option Addr} {rs : List Mv.R} (h : Vs w p rs) (hb : Below w.heap.size w w') : Vs w' p rs := ⟨h.row.mono hb, fun r hr => (h.vec r hr).mono hb⟩
theorem Vs.drewN {w : World} {p : Option Addr} {rs : List Mv.R} (h : Vs w p rs) (n : Nat) : Vs (w.drewN n) p rs := ⟨h.row.drewN n, fun r hr => (h.vec r hr).drewN n⟩
theorem Vs.nil (w : World) (p : Option Addr) : Vs w p [] := ⟨Row.nil _ _ _, (fun r h => by cases h)⟩
theorem Vs.cell {w : World} {p : Option Addr} {rs : List Mv.R} (h : Vs w p rs) {i : Nat} (hi : i < rs.length) :
    ∃ b off, p = some ⟨b, off, none⟩ ∧ b < w.heap.size ∧ w.cell? ⟨b, off + i * 2, none⟩ = some (.int .i64 rs[i].val) ∧ w.cell? ⟨b, off + i * 2 + 1, none⟩ = some (.slice rs[i].p rs[i].vec.length rs[i].cap) ∧ Row nE w rs[i].p rs[i].vec := by
  obtain ⟨b, off, h1, h2, h3⟩ := h.row.cell hi
  exact ⟨b, off, h1, h2, h3 0 _ rfl, h3 1 _ rfl, h.vec _ (List.getElem_mem hi)⟩
theorem Vs.upto {w : World} {p : Option Addr} {rs : List Mv.R} (h : Vs w p rs) (k : Nat) : Vs w p (rs.take k) := by
  refine ⟨⟨fun e => by rw [h.row.nil' e]; simp, fun hn => ?_⟩, fun r hr => h.vec r (List.mem_of_mem_take hr)⟩
  have hl : rs ≠ [] := by intro e; subst e; simp at hn
  obtain ⟨b, off, e', hb, hcc⟩ := h.row.at' hl
  refine ⟨b, off, e', hb, fun i hi j u hu => ?_⟩
  rw [List.getElem_take] at hu
  exact hcc i (by simp at hi; omega) j u hu

theorem ints_cell {H : Type} {enc : TypeId × Value → H} {W : World} {c : Value} {y : DataW H × List MemPlace} {fuel : Nat}
    (h : DataW.trod enc Try.prog W 0 (fun _ => true) true fuel 33 [c] = some y) : ∃ (p : Option Addr) (l : List Int) (cap : Nat), c = .slice p l.length cap ∧ Row nE W p l ∧ (p = none → cap = 0) ∧ l.length ≤ cap := by
  rcases ChangeShapes.open_ints Try.underlying33 Try.underlying3 (by kernel_rfl) h with ⟨hcs, _⟩ | ⟨x, l, c', zs, hcs, _, hl, hm, hz, hx, hcell, hwz⟩
  · refine ⟨none, [], 0, by simpa using hcs, Row.nil _ _ _, fun _ => rfl, by simp⟩
  · have hzl : zs.length = c' := by simpa using hz
    have hlen : (zs.take l).length = l := by simp; omega
    refine ⟨some x, zs.take l, c', by rw [hlen]; simpa using hcs, ⟨(fun h => by cases h), fun hn => ?_⟩, (fun h => by cases h), by rw [hlen]; omega⟩
    have h0 : 0 < l := by
      rcases Nat.eq_zero_or_pos l with h0 | h0
      · subst h0; simp at hn
      · exact h0
    have hc0 := hcell 0 (by omega)
    have hsp := cell_spot hc0
    have hlt := cell_block_lt hc0
    rw [add_spot] at hsp hlt
    obtain ⟨b, off, sp⟩ := x
    dsimp only at hsp hlt
    subst hsp
    refine ⟨b, off, rfl, hlt, fun i hi k u hu => ?_⟩
    rw [hlen] at hi
    have := hcell i (by omega)
    rw [add_at] at this
    simp only [nE] at hu ⊢
    match k, hu with
    | 0, hu =>
      rw [Nat.mul_one, Nat.add_zero, this]
      simpa [List.getElem?_eq_getElem (show i < zs.length by omega)] using hu
theorem cells2 {w : World} {base : Nat} {a : Addr} {cs : List Value} (h : w.cells? base a 2 = some cs) : ∃ c0 c1, cs = [c0, c1] ∧ w.cell? (a.add 0) = some c0 ∧ w.cell? (a.add 1) = some c1 := by
  unfold World.cells? at h
  split at h
  · simp only [List.range, List.range.loop, List.mapM_cons, List.mapM_nil, Option.bind_eq_bind, Option.pure_def, Option.bind_eq_some_iff, Option.some.injEq] at h
    obtain ⟨c0, h0, r0, ⟨c1, h1, r1, h3, h4⟩, h6⟩ := h
    subst h3 h4
    exact ⟨c0, c1, h6.symm, h0, h1⟩
  · cases h
theorem trod_structB {H : Type} {enc : TypeId × Value → H} {P : Program} {w : World} {base : Nat} {spare : Nat → Bool} {held : Bool} {t : TypeId} {f0 f1 : Field} {fuel : Nat} {cs : List Value} {x : DataW H × List MemPlace} (ht : P.underlying t = some (.struct #[f0, f1])) (h : DataW.trod enc P w base spare held fuel t cs = some x) :
    ∃ y0 y1 n, DataW.trod enc P w base spare held n f0.type ((cs.drop f0.offset).take (P.cellsOf f0.type)) = some y0 ∧ DataW.trod enc P w base spare held n f1.type ((cs.drop f1.offset).take (P.cellsOf f1.type)) = some y1 := by
  obtain ⟨xs, n, _, rfl, hl, hlen, hf⟩ := DataW.trod_struct ht h
  match xs, hlen with
  | [y0, y1], _ => exact ⟨y0, y1, n, by simpa using hf 0 f0 rfl, by simpa using hf 1 f1 rfl⟩
theorem val_cell {H : Type} {enc : TypeId × Value → H} {W : World} {cs : List Value} {y : DataW H × List MemPlace} {fuel : Nat} (h2 : cs.length = 2)
    (h : DataW.trod enc Try.prog W 0 (fun _ => true) true fuel 35 cs = some y) : ∃ r : Mv.R, cs = rwE.enc r ∧ Row nE W r.p r.vec := by
  match cs, h2 with
  | [c0, c1], _ =>
    obtain ⟨y0, y1, m, t0, t1⟩ := trod_structB Try.underlying35 h
    have e1 : Try.prog.cellsOf 3 = 1 := by kernel_rfl
    have e2 : Try.prog.cellsOf 33 = 1 := by kernel_rfl
    simp only [e1, e2, List.drop_zero, List.drop_succ_cons, List.take_succ_cons, List.take_zero] at t0 t1
    obtain ⟨n, hn, -, -⟩ := DataW.trod_int Try.underlying3 t0
    obtain ⟨p, l, cap, rfl, hr, -, -⟩ := ints_cell t1
    obtain rfl : c0 = .int .i64 n := by simpa using hn
    exact ⟨⟨n, p, cap, l⟩, rfl, hr⟩
/-- a slice of values that came in -/
theorem vals_open {H : Type} {enc : TypeId × Value → H} {W : World} {v : Value} {d : DataW H} {ps : List MemPlace} {fuel : Nat} (hv : ∃ p len cap, v = .slice p len cap)
    (h : DataW.trod enc Try.prog W 0 (fun _ => true) true fuel 22 v.cells.toList = some (d, ps)) (hsz : (d.weights Try.prog 22).all (· ≤ 140737488351232) = true) :
    ∃ p rs cap, v = .slice p (List.length rs) cap ∧ Vs W p rs ∧ (p = none → cap = 0) ∧ rs.length ≤ 4398046510976 ∧ rs.length ≤ cap := by
  obtain ⟨p0, len0, cap0, rfl⟩ := hv
  have e6 : Try.prog.cellsOf 35 = 2 := by kernel_rfl
  simp only [Value.cells] at h
  generalize hy : (d, ps) = y at h
  have hd : d = y.1 := by rw [← hy]
  rw [hd] at hsz
  clear hy hd
  rcases Deep.open_slice Try.underlying22 h with ⟨hc, -⟩ | ⟨a, len, cap, mm, n, D, Pl, hc, -, hlen, hmax, hm, rfl, hel⟩
  · have hc : Value.slice p0 len0 cap0 = .slice none 0 0 := by simpa using hc
    exact ⟨none, [], 0, hc, Vs.nil _ _, fun _ => rfl, by simp, by simp⟩
  · have hc : Value.slice p0 len0 cap0 = .slice (some a) len cap := by simpa using hc
    simp only [if_true] at hm
    subst hm
    rw [DataW.weights, Try.underlying22] at hsz
    simp only [List.all_cons, List.all_append, Bool.and_eq_true] at hsz
    obtain ⟨hw0, hw1, -⟩ := hsz
    have hb : Try.prog.bytesOf 35 = 32 := by kernel_rfl
    rw [hb, List.length_map, List.length_map, List.length_range, List.length_range] at hw0
    have hw0' := of_decide_eq_true hw0
    have each : ∀ i, i < len → ∃ r : Mv.R, (∀ k u, (rwE.enc r)[k]? = some u → W.cell? ((a.add (i * 2)).add k) = some u) ∧ Row nE W r.p r.vec := fun i hi => by
      obtain ⟨cs', h1, h2⟩ := hel i (by omega)
      rw [e6] at h1
      obtain ⟨c0, c1, rfl, k0, k1⟩ := cells2 h1
      obtain ⟨r, e, hr⟩ := val_cell rfl h2
      refine ⟨r, fun k u hu => ?_, hr⟩
      rw [← e] at hu
      match k, hu with
      | 0, hu => cases hu; exact k0
      | 1, hu => cases hu; exact k1
      | k + 2, hu => simp at hu
    obtain ⟨K, hK⟩ : ∃ K : Nat → Mv.R, ∀ i, i < len → (∀ k u, (rwE.enc (K i))[k]? = some u → W.cell? ((a.add (i * 2)).add k) = some u) ∧ Row nE W (K i).p (K i).vec :=
      ⟨fun i => if h : i < len then (each i h).choose else ⟨0, none, 0, []⟩, fun i hi => by simp only [dif_pos hi]; exact (each i hi).choose_spec⟩
    have hl : ((List.range len).map K).length = len := by simp
    refine ⟨some a, (List.range len).map K, mm, by rw [hl]; exact hc, ⟨⟨(fun h => by cases h), fun hn => ?_⟩, fun r hr => ?_⟩, (fun h => by cases h), by rw [hl]; omega, by rw [hl]; exact hlen⟩
    · have h0 : 0 < len := by
        rcases Nat.eq_zero_or_pos len with h0 | h0
        · subst h0; simp at hn
        · exact h0
      have c0 := (hK 0 h0).1 0 _ rfl
      rw [Nat.zero_mul, add_spot, add_spot] at c0
      have hsp := cell_spot c0
      have hlt := cell_block_lt c0
      obtain ⟨b, off, sp⟩ := a
      dsimp only at hsp hlt
      subst hsp
      refine ⟨b, off, rfl, hlt, fun i hi k u hu => ?_⟩
      rw [hl] at hi
      have ei : ((List.range len).map K)[i]'(by rw [hl]; exact hi) = K i := by simp
      rw [ei] at hu
      have := (hK i hi).1 k u hu
      rwa [add_at, add_at] at this
    · obtain ⟨i, hi, rfl⟩ := List.mem_map.1 hr
      exact (hK i (List.mem_range.1 hi)).2
end Go.Proofs.Ytidncnhhjfdifaa
