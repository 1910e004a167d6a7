
/-
  The law's hunk, walked.
  A patch that came in, as the form reads it.
  The law's grown and cost, walked.
-/
import Derived.Test.YtcheggdfcdokiaaDoorTpE
import Derived.Test.YtcheggdfcdokiaaDoorDifP
import Derived.Deep.Slices
import Derived.Deep.Strs
import Derived.WideShapes
import Derived.ChangeSame
namespace Go.Proofs.YtcheggdfcdokiaaDoor
open Go.RowKit
set_option maxRecDepth 4000

set_option maxHeartbeats 2000000 in
theorem hunk_any (z : Int) (o n : Sv) (l m : List ByteArray) (w : World) (ho : Rd w o l) (hn : Rd w n m) :
    Calls Tryd.prog 32 #[.int .i64 z, sv o, sv n] w (fun e w' => ∃ p, e = .returned (.agg #[.slice p 1 1]) ∧ Ptc w' p [⟨z, l, m⟩] ∧ p ≠ none ∧ Below w.heap.size w w') := by
  obtain ⟨o1, o2, o3⟩ := o
  obtain ⟨n1, n2, n3⟩ := n
  have l1 := ho.len
  have l2 := hn.len
  dsimp only at l1 l2
  subst l1 l2
  have HO := Lib.hid ho
  have HN := Lib.hid hn
  clear ho hn
  simp only [sv]
  go_enter Tryd.func32, Tryd.ntmps32
  have zs : (w.alloc (.cells #[.slice (some ⟨w.heap.size + 1, 0, none⟩) 1 1] 25 (0, 0))).heap.size = w.heap.size + 1 := by simp
  have B : Below w.heap.size w ((w.alloc (.cells #[.slice (some ⟨w.heap.size + 1, 0, none⟩) 1 1] 25 (0, 0))).alloc (.cells #[.int .i64 z, .slice o1 l.length o3, .slice n1 m.length n3] 46 (0, 0))) := up_alloc (up_alloc (Below.refl _ _) _) _
  have K : ∀ (j : Nat), ((w.alloc (.cells #[.slice (some ⟨w.heap.size + 1, 0, none⟩) 1 1] 25 (0, 0))).alloc (.cells #[.int .i64 z, .slice o1 l.length o3, .slice n1 m.length n3] 46 (0, 0))).cell? ⟨w.heap.size + 1, j, none⟩ = (#[Value.int .i64 z, .slice o1 l.length o3, .slice n1 m.length n3] : Array Value)[j]? := by
    intro j
    obtain ⟨X, hX⟩ : ∃ X, X = w.alloc (.cells #[.slice (some ⟨w.heap.size + 1, 0, none⟩) 1 1] 25 (0, 0)) := ⟨_, rfl⟩
    rw [← hX] at zs ⊢
    rw [← zs, World.cell?_alloc_mark]
  have P : Hid (Ptc ((w.alloc (.cells #[.slice (some ⟨w.heap.size + 1, 0, none⟩) 1 1] 25 (0, 0))).alloc (.cells #[.int .i64 z, .slice o1 l.length o3, .slice n1 m.length n3] 46 (0, 0))) (some ⟨w.heap.size + 1, 0, none⟩) [⟨z, l, m⟩]) := Lib.hid (by
    refine ⟨(fun h => by cases h), fun _ => ⟨_, _, rfl, by rw [World.size_alloc, zs]; omega, fun i hi => ?_⟩⟩
    obtain rfl : i = 0 := by simp at hi; omega
    refine ⟨(o1, l.length, o3), (n1, m.length, n3), ?_, ?_, ?_, HO.out.mono B, HN.out.mono B⟩
    · rw [K]; rfl
    · rw [K]; rfl
    · rw [K]; rfl)
  have c0 : ((w.alloc (.cells #[.slice (some ⟨w.heap.size + 1, 0, none⟩) 1 1] 25 (0, 0))).alloc (.cells #[.int .i64 z, .slice o1 l.length o3, .slice n1 m.length n3] 46 (0, 0))).cell? ⟨w.heap.size, 0, none⟩ = some (.slice (some ⟨w.heap.size + 1, 0, none⟩) 1 1) := cell_up (by rw [World.cell?_alloc_mark]; rfl) _
  go_wp2_with fail
  refine bodyPost_ret (v := .agg #[.slice (some ⟨w.heap.size + 1, 0, none⟩) 1 1]) (by simp [results, Tryd.results32, go_sem]) rfl ⟨_, rfl, P.out, by simp, B⟩
end Go.Proofs.YtcheggdfcdokiaaDoor
namespace Go.Proofs.YtcheggdfcdokiaaDoor
open Go.RowKit
set_option maxRecDepth 4000

theorem cells3 {w : World} {base : Nat} {a : Addr} {cs : List Value} (h : w.cells? base a 3 = some cs) : ∃ c0 c1 c2, cs = [c0, c1, c2] ∧ w.cell? (a.add 0) = some c0 ∧ w.cell? (a.add 1) = some c1 ∧ w.cell? (a.add 2) = some c2 := by
  unfold World.cells? at h
  split at h
  · simp only [List.range, List.range.loop, List.mapM_cons, List.mapM_nil, Option.bind_eq_bind, Option.pure_def, Option.bind_eq_some_iff, Option.some.injEq] at h
    obtain ⟨c0, h0, r0, ⟨c1, h1, r1, ⟨c2, h2, r2, h3, h4⟩, h5⟩, h6⟩ := h
    subst h3 h4 h5
    exact ⟨c0, c1, c2, h6.symm, h0, h1, h2⟩
  · cases h
theorem sts_cell {H : Type} {enc : TypeId × Value → H} {W : World} {c : Value} {y : DataW H × List MemPlace} {fuel : Nat}
    (h : DataW.trod enc Tryd.prog W 0 (fun _ => true) true fuel 22 [c] = some y) (hsz : (y.1.weights Tryd.prog 22).all (· ≤ 140737488351232) = true) : ∃ (s : Sv) (l : List ByteArray), c = sv s ∧ Rd W s l ∧ l.length ≤ 8796093021952 := by
  have hv : ∃ p len cap, c = .slice p len cap := by
    rcases ChangeShapes.open_strings Tryd.underlying22 Tryd.underlying9 (by kernel_rfl) h with ⟨hcs, _⟩ | ⟨x, l, c', ss, hcs, _⟩
    · exact ⟨none, 0, 0, by simpa using hcs⟩
    · exact ⟨some x, l, c', by simpa using hcs⟩
  obtain ⟨p, len, cap, rfl⟩ := hv
  obtain ⟨p', l, cap', e, h1, h2, h3, h4⟩ := sts_open (v := .slice p len cap) (d := y.1) (ps := y.2) Tryd.underlying22 Tryd.underlying9 (by kernel_rfl) (by kernel_rfl) ⟨p, len, cap, rfl⟩ h hsz
  cases e
  exact ⟨(p, l.length, cap), l, rfl, ⟨h1, rfl, h2, h4⟩, h3⟩
theorem weights_get {H : Type} {P : Program} {e : TypeId} {l : List (DataW H)} {d : DataW H} (h : d ∈ l) {q : Nat → Bool} (ha : (DataW.weightsAll P e l).all q = true) : (d.weights P e).all q = true := by
  induction l with
  | nil => cases h
  | cons x r ih =>
    rw [DataW.weightsAll, List.all_append, Bool.and_eq_true] at ha
    rcases List.mem_cons.1 h with rfl | h
    · exact ha.1
    · exact ih h ha.2
/-- a number that fits -/
def fits63 (n : Int) : Prop := -9223372036854775808 ≤ n ∧ n ≤ 9223372036854775807
theorem hunk_cell {H : Type} {enc : TypeId × Value → H} {W : World} {cs : List Value} {y : DataW H × List MemPlace} {fuel : Nat} (h3 : cs.length = 3)
    (h : DataW.trod enc Tryd.prog W 0 (fun _ => true) true fuel 46 cs = some y) (hsz : (y.1.weights Tryd.prog 46).all (· ≤ 140737488351232) = true) :
    ∃ (k : Dif.Hk ByteArray) (o n : Sv), cs = [.int .i64 k.at', sv o, sv n] ∧ Rd W o k.old ∧ Rd W n k.new ∧ fits63 k.at' := by
  match cs, h3 with
  | [c0, c1, c2], _ =>
    obtain ⟨y0, y1, y2, m, rfl, -, t0, t1, t2⟩ := Deep.trod_struct3 Tryd.underlying46 h
    have e1 : Tryd.prog.cellsOf 3 = 1 := by kernel_rfl
    have e2 : Tryd.prog.cellsOf 22 = 1 := by kernel_rfl
    simp only [e1, e2, List.drop_zero, List.drop_succ_cons, List.take_succ_cons, List.take_zero] at t0 t1 t2
    obtain ⟨n, hn, -, hw⟩ := DataW.trod_int Tryd.underlying3 t0
    have ew : (DataW.agg [y0.1, y1.1, y2.1] : DataW H).weights Tryd.prog 46 = y0.1.weights Tryd.prog 3 ++ (y1.1.weights Tryd.prog 22 ++ (y2.1.weights Tryd.prog 22 ++ [])) := by
      rw [DataW.weights, Tryd.underlying46]; rfl
    dsimp only at hsz
    rw [ew, List.all_append, List.all_append, List.all_append, Bool.and_eq_true, Bool.and_eq_true, Bool.and_eq_true] at hsz
    obtain ⟨o, l, rfl, r1, -⟩ := sts_cell t1 hsz.2.1
    obtain ⟨n', l', rfl, r2, -⟩ := sts_cell t2 hsz.2.2.1
    refine ⟨⟨n, l, l'⟩, o, n', by simpa using hn, r1, r2, ?_⟩
    simp [Lit.wf, IntKind.min, IntKind.max, IntKind.signed, IntKind.bits] at hw
    exact ⟨by show _ ≤ n; omega, by show n ≤ _; omega⟩
theorem ptc_open {H : Type} {enc : TypeId × Value → H} {W : World} {v : Value} {d : DataW H} {ps : List MemPlace} {fuel : Nat} (hv : ∃ cs, v = .agg cs ∧ cs.size = Tryd.prog.cellsOf 25)
    (h : DataW.trod enc Tryd.prog W 0 (fun _ => true) true fuel 25 v.cells.toList = some (d, ps)) (hsz : (d.weights Tryd.prog 25).all (· ≤ 140737488351232) = true) :
    ∃ p hs cap, v = .agg #[.slice p (List.length hs) cap] ∧ Ptc W p hs ∧ (p = none → cap = 0) ∧ hs.length ≤ 2513169434845 ∧ hs.length ≤ cap ∧ ∀ k ∈ hs, fits63 k.at' := by
  obtain ⟨cs, rfl, hcs⟩ := hv
  have ec : Tryd.prog.cellsOf 25 = 1 := by kernel_rfl
  rw [ec] at hcs
  obtain ⟨c, rfl⟩ : ∃ c, cs = #[c] := ⟨cs[0]'(by omega), Array.ext (by simp [hcs]) (fun i h1 h2 => by
    have : i = 0 := by omega
    subst this; rfl)⟩
  obtain ⟨y0, m, hx, -, t0⟩ := ChangeShapes.trod_struct1 Tryd.underlying25 h
  have e2 : Tryd.prog.cellsOf 23 = 1 := by kernel_rfl
  have e3 : Tryd.prog.cellsOf 46 = 3 := by kernel_rfl
  have hd : d = .agg [y0.1] := congrArg Prod.fst hx
  subst hd
  have ew : (DataW.agg [y0.1] : DataW H).weights Tryd.prog 25 = y0.1.weights Tryd.prog 23 ++ [] := by
    rw [DataW.weights, Tryd.underlying25]; rfl
  rw [ew, List.append_nil] at hsz
  simp only [e2, Value.cells, List.drop_zero, List.take_succ_cons, List.take_zero] at t0
  rcases Deep.open_slice Tryd.underlying23 t0 with ⟨hc, -⟩ | ⟨a, len, cap, mm, n, D, Pl, hc, -, hlen, hmax, hm, rfl, hel⟩
  · obtain rfl : c = .slice none 0 0 := by simpa using hc
    exact ⟨none, [], 0, rfl, ⟨fun _ => rfl, fun h => (h rfl).elim⟩, fun _ => rfl, by simp, by simp, fun k hk => by cases hk⟩
  · obtain rfl : c = .slice (some a) len cap := by simpa using hc
    simp only [if_true] at hm
    subst hm
    rw [DataW.weights, Tryd.underlying23] at hsz
    simp only [List.all_cons, List.all_append, Bool.and_eq_true] at hsz
    obtain ⟨hw0, hw1, -⟩ := hsz
    have hb : Tryd.prog.bytesOf 46 = 56 := by kernel_rfl
    rw [hb, List.length_map, List.length_map, List.length_range, List.length_range] at hw0
    have hw0' := of_decide_eq_true hw0
    have each : ∀ i, i < len → ∃ (k : Dif.Hk ByteArray) (o n : Sv), W.cell? (a.add (i * 3)) = some (.int .i64 k.at') ∧ W.cell? ((a.add (i * 3)).add 1) = some (sv o) ∧ W.cell? ((a.add (i * 3)).add 2) = some (sv n) ∧ Rd W o k.old ∧ Rd W n k.new ∧ fits63 k.at' := fun i hi => by
      obtain ⟨cs', h1, h2⟩ := hel i (by omega)
      rw [e3] at h1
      obtain ⟨c0, c1, c2, rfl, k0, k1, k2⟩ := cells3 h1
      have hwi := weights_get (List.mem_map.2 ⟨i, List.mem_range.2 hi, rfl⟩) hw1
      obtain ⟨k, o, n, e, r1, r2, r3⟩ := hunk_cell rfl h2 hwi
      simp only [List.cons.injEq, and_true] at e
      obtain ⟨rfl, rfl, rfl⟩ := e
      exact ⟨k, o, n, k0, k1, k2, r1, r2, r3⟩
    obtain ⟨K, hK⟩ : ∃ K : Nat → Dif.Hk ByteArray, ∀ i, i < len → ∃ o n : Sv, W.cell? (a.add (i * 3)) = some (.int .i64 (K i).at') ∧ W.cell? ((a.add (i * 3)).add 1) = some (sv o) ∧ W.cell? ((a.add (i * 3)).add 2) = some (sv n) ∧ Rd W o (K i).old ∧ Rd W n (K i).new ∧ fits63 (K i).at' :=
      ⟨fun i => if h : i < len then (each i h).choose else ⟨0, [], []⟩, fun i hi => by simp only [dif_pos hi]; exact (each i hi).choose_spec⟩
    have hl : ((List.range len).map K).length = len := by simp
    refine ⟨some a, (List.range len).map K, mm, by rw [hl], ⟨(fun h => by cases h), fun hn => ?_⟩, (fun h => by cases h), by rw [hl]; omega, by rw [hl]; exact hlen, fun k hk => ?_⟩
    · have h0 : 0 < len := by
        rcases Nat.eq_zero_or_pos len with h0 | h0
        · subst h0; simp at hn
        · exact h0
      obtain ⟨o, n, c0, -⟩ := hK 0 h0
      rw [Nat.zero_mul, add_spot] at c0
      have hsp := cell_spot c0
      have hlt := cell_block_lt c0
      obtain ⟨b, off, sp⟩ := a
      dsimp only at hsp hlt
      subst hsp
      refine ⟨b, off, rfl, hlt, fun i hi => ?_⟩
      rw [hl] at hi
      obtain ⟨o, n, c0, c1, c2, r1, r2, -⟩ := hK i hi
      rw [add_at] at c0 c1 c2
      rw [add_at] at c1 c2
      have ei : ((List.range len).map K)[i]'(by rw [hl]; exact hi) = K i := by simp
      rw [ei]
      exact ⟨o, n, c0, c1, c2, r1, r2⟩
    · obtain ⟨i, hi, rfl⟩ := List.mem_map.1 hk
      obtain ⟨o, n, -, -, -, -, -, r⟩ := hK i (List.mem_range.1 hi)
      exact r
end Go.Proofs.YtcheggdfcdokiaaDoor
namespace Go.Proofs.YtcheggdfcdokiaaDoor
open Go.RowKit
set_option maxRecDepth 4000

namespace Tp
theorem co_next (hs : List H) (k : Nat) (h : k < hs.length) : co (hs.take (k + 1)) = co (hs.take k) + (hs[k].old.length + hs[k].new.length) := by
  rw [List.take_succ_eq_append_getElem h, co_app]; simp [co]
theorem co_bound (hs : List H) (hv : ∀ h ∈ hs, h.old.length ≤ 120 ∧ h.new.length ≤ 120) : co hs ≤ 240 * hs.length := by
  induction hs with
  | nil => simp [co]
  | cons h r ih =>
    have h1 := ih (fun x hx => hv x (List.mem_cons_of_mem _ hx))
    obtain ⟨h3, h4⟩ := hv h (List.mem_cons_self ..)
    simp only [co, List.length_cons]
    omega
end Tp
end Go.Proofs.YtcheggdfcdokiaaDoor
